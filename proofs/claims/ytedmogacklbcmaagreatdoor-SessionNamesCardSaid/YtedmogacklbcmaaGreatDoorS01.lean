/- Texts that the proofs share: EvRun. -/
import Derived.Calls
import Derived.Orders
import Derived.Below
import Derived.Laws.Sem
namespace Go.Proofs.YtedmogacklbcmaaGreatDoor
namespace Ev
inductive Tr (α : Type) where
 | lf
 | nd (l : Tr α) (v : Option α) (r : Tr α)
namespace Tr
variable {α : Type}
def get : Tr α → Nat → Option α
 | lf, _ => none
 | nd l v r, n => if n = 0 then v else if n % 2 = 1 then l.get (n / 2) else r.get (n / 2 - 1)
def set : Nat → Tr α → Nat → α → Tr α
 | 0, t, _, _ => t
 | f + 1, lf, n, x => if n = 0 then nd lf (some x) lf else if n % 2 = 1 then nd (set f lf (n / 2) x) none lf else nd lf none (set f lf (n / 2 - 1) x)
 | f + 1, nd l v r, n, x => if n = 0 then nd l (some x) r else if n % 2 = 1 then nd (set f l (n / 2) x) v r else nd l v (set f r (n / 2 - 1) x)
def put (t : Tr α) (n : Nat) (x : α) : Option (Tr α) := if n < 1000000 then some (set 32 t n x) else none
theorem get_set (f : Nat) : ∀ (t : Tr α) (n : Nat) (x : α) (m : Nat), n + 2 ≤ 2 ^ f → (set f t n x).get m = if m = n then some x else t.get m := by
 induction f with
 | zero => intro t n x m h; simp at h
 | succ f ih =>
   intro t n x m h
   have h1 : n % 2 = 1 → n / 2 + 2 ≤ 2 ^ f := by intro h1; rw [Nat.pow_succ] at h; omega
   have h2 : n % 2 ≠ 1 → n ≠ 0 → n / 2 - 1 + 2 ≤ 2 ^ f := by intro h1 h0; rw [Nat.pow_succ] at h; omega
   cases t with
   | lf =>
     simp only [set]
     by_cases h0 : n = 0
     · subst h0; simp only [if_true, get]
       by_cases hm : m = 0 <;> simp [hm]
     · by_cases ho : n % 2 = 1
       · simp only [h0, ho, if_true, if_false, get]
         by_cases hm : m = 0
         · subst hm; simp; omega
         · by_cases hmo : m % 2 = 1
           · simp only [hm, hmo, if_true, if_false, ih _ _ _ _ (h1 ho), get]
             by_cases e : m = n
             · simp [e]
             · rw [if_neg (by omega), if_neg e]
           · simp only [hm, hmo, if_false]
             rw [if_neg (by rintro rfl; omega)]
       · simp only [h0, ho, if_false, get]
         by_cases hm : m = 0
         · subst hm; simp; omega
         · by_cases hmo : m % 2 = 1
           · simp only [hm, hmo, if_true, if_false]
             rw [if_neg (by rintro rfl; omega)]
           · simp only [hm, hmo, if_false, ih _ _ _ _ (h2 ho h0), get]
             by_cases e : m = n
             · simp [e]
             · rw [if_neg (by omega), if_neg e]
   | nd l v r =>
     simp only [set]
     by_cases h0 : n = 0
     · subst h0; simp only [if_true, get]
       by_cases hm : m = 0 <;> simp [hm]
     · by_cases ho : n % 2 = 1
       · simp only [h0, ho, if_true, if_false, get]
         by_cases hm : m = 0
         · subst hm; simp; omega
         · by_cases hmo : m % 2 = 1
           · simp only [hm, hmo, if_true, if_false, ih _ _ _ _ (h1 ho)]
             by_cases e : m = n
             · simp [e]
             · rw [if_neg (by omega), if_neg e]
           · simp only [hm, hmo, if_false]
             rw [if_neg (by rintro rfl; omega)]
       · simp only [h0, ho, if_false, get]
         by_cases hm : m = 0
         · subst hm; simp; omega
         · by_cases hmo : m % 2 = 1
           · simp only [hm, hmo, if_true, if_false]
             rw [if_neg (by rintro rfl; omega)]
           · simp only [hm, hmo, if_false, ih _ _ _ _ (h2 ho h0)]
             by_cases e : m = n
             · simp [e]
             · rw [if_neg (by omega), if_neg e]
theorem get_put {t t' : Tr α} {n : Nat} {x : α} (h : t.put n x = some t') (m : Nat) : t'.get m = if m = n then some x else t.get m := by
 unfold put at h
 split at h
 · injection h with h; subst h; exact get_set 32 t n x m (by omega)
 · cases h
theorem get_lf (n : Nat) : (lf : Tr α).get n = none := rfl
end Tr
structure Blk where
 cells : List Value
 elem : TypeId
 kind : Nat
structure AW where
 heap : Tr Blk
 next : Nat
 last : Tr Nat
 clock : Nat
 obl : List Prop
 hints : List Nat
def AW.empty : AW := ⟨.lf, 0, .lf, 0, [], []⟩
def AW.new (w : AW) (b : Blk) : Option AW :=
 match w.heap.put w.next b, w.last.put w.next w.clock with
 | some h, some l => some ⟨h, w.next + 1, l, w.clock + 1, w.obl, w.hints⟩
 | _, _ => none
def AW.upd (w : AW) (i : Nat) (b : Blk) : Option AW :=
 match w.heap.put i b, w.last.put i w.clock with
 | some h, some l => some ⟨h, w.next, l, w.clock + 1, w.obl, w.hints⟩
 | _, _ => none
def mapMark : Value := .chan (some 7)
def AW.mapOf (w : AW) (r : Nat) : Option (List Value) :=
 match w.heap.get r with
 | some b => match b.kind, b.cells with
   | 2, .chan (some 7) :: l => some l
   | _, _ => none
 | none => none
def AW.cell (w : AW) (a : Addr) : Option Value :=
 match a.spot, w.heap.get a.block with
 | none, some b => if b.kind ≠ 2 then b.cells[a.off]? else none
 | _, _ => none
def AW.setCell (w : AW) (a : Addr) (v : Value) : Option AW :=
 match a.spot, w.heap.get a.block with
 | none, some b => if b.kind < 2 ∧ a.off < b.cells.length then w.upd a.block { b with cells := b.cells.set a.off v } else none
 | _, _ => none
def atom : Value → Bool
 | .bool _ | .int _ _ | .float _ _ | .complex _ _ _ | .string _ | .pointer none | .nilIface | .nilFunc | .map none | .chan none | .slice none 0 0 => true
 | _ => false
def flat : Value → Bool
 | .agg cs => cs.toList.all atom
 | .tuple cs => cs.toList.all atom
 | v => atom v
def pureRun {α : Type} (P : Program) : Sem α → Option α
 | .pure a => some a
 | .program k => pureRun P (k P)
 | .mark _ k => pureRun P k
 | _ => none
def arun {α : Type} (P : Program) : Sem α → AW → Option (α × AW)
 | .pure a, w => some (a, w)
 | .load _ a k, w =>
   match w.cell a with
   | some v => arun P (k v) w
   | none => none
 | .store _ a v k, w =>
   match v with
   | .agg _ | .tuple _ => none
   | v => match w.setCell a v with
     | some w' => arun P k w'
     | none => none
 | .new o k, w =>
   match o with
   | .cells c e fz => if fz.1 = fz.2 then match w.new ⟨c.toList, e, 0⟩ with
     | some w' => arun P (k w.next) w'
     | none => none
     else none
   | _ => none
 | .shape r k, w =>
   match w.heap.get r with
   | some b => if b.kind = 0 then arun P (k (some (b.elem, b.cells.length))) w else none
   | none => none
 | .freeze a _ k, w =>
   match a.spot, w.heap.get a.block with
   | none, some b => if b.kind = 0 ∧ b.cells.length ≤ a.off then arun P k w else none
   | _, _ => none
 | .choose q k, w => if q.forced then arun P (k 0) w else none
 | .program k, w => arun P (k P) w
 | .mark _ k, w => arun P k w
 | _, _ => none
def eval (s : Tr Value) : Operand → Value
 | .tmp t => (s.get t).getD undef
 | .const v => v
 | .global _ => .chan (some 0)
 | .func f => .func (.func f) #[] #[]
end Ev
end Go.Proofs.YtedmogacklbcmaaGreatDoor
namespace Go.Proofs.YtedmogacklbcmaaGreatDoor
namespace Ev
def okOpnd : Operand → Bool
 | .tmp _ => true
 | .const v => flat v
 | .global _ => false
 | .func _ => true
def zflat (P : Program) (t : TypeId) : Bool :=
 match P.info? t with
 | some i => match i.zero with
   | some z => flat z && z.cells.size == i.size
   | none => false
 | none => false
def elemOf (P : Program) (t : TypeId) : Option TypeId :=
 match P.underlying t with
 | some (.slice e) => some e
 | _ => none
def isLoad : Op → Bool
 | .load .. => true
 | .lookup .. => true
 | .slice _ _ _ _ none => true
 | _ => false
def nilEq (P : Program) (t : TypeId) (x y : Value) : Option Bool :=
 match P.underlying t, x, y with
 | some (.pointer _), .pointer (some _), .pointer none => some false
 | some (.pointer _), .pointer none, .pointer (some _) => some false
 | some (.slice _), .slice (some _) _ _, .slice none 0 0 => some false
 | some (.slice _), .slice none 0 0, .slice (some _) _ _ => some false
 | _, _, _ => none
def evLen (P : Program) (ρ : Operand → Value) (c : Call) : Option Value :=
 match c.callee, c.args.toList, c.argTypes.toList with
 | .builtin .len, [x], [ty] => match ρ x, P.underlying ty with
   | .slice (some _) n _, some (.slice _) => some (.int .i64 n)
   | _, _ => none
 | _, _, _ => none
def evPart (P : Program) (t : TypeId) (cs : Array Value) (off : Nat) : Option Value :=
 match P.underlying t with
 | some (.struct _) | some (.array _ _) => match P.info? t with
   | some i => some (.agg (cs.extract off (off + i.size)))
   | none => none
 | some _ => cs[off]?
 | none => none
def evField (P : Program) (ty : TypeId) (x : Value) (f : Nat) : Option Value :=
 match x, P.underlying ty with
 | .agg cs, some (.struct fs) => match fs[f]? with
   | some fd => evPart P fd.type cs fd.offset
   | none => none
 | _, _ => none
def evIndex (P : Program) (ty : TypeId) (x ix : Value) : Option Value :=
 match ix, x, P.underlying ty with
 | .int _ i, .agg cs, some (.array n e) => if 0 ≤ i ∧ i < n ∧ 0 < P.cellsOf e then evPart P e cs (i.toNat * P.cellsOf e) else none
 | _, _, _ => none
def keyKind (P : Program) (t : TypeId) : Option TypeDesc :=
 match P.underlying t with
 | some (.int k) => some (.int k)
 | some .string => some .string
 | some .bool => some .bool
 | _ => none
def mapFind (d : TypeDesc) (k : Value) : List Value → Nat → Option (Option (Nat × Value))
 | [], _ => some none
 | e :: es, i => match e with
   | .tuple kv => match kv.toList with
     | [k', v] => match Instr.sameNow d k k' with
       | some true => some (some (i, v))
       | some false => mapFind d k es (i + 1)
       | none => none
     | _ => none
   | _ => none
def evLookup (P : Program) (w : AW) (ty : TypeId) (m k : Value) (ok : Bool) : Option Value :=
 match m, P.underlying ty with
 | .map (some r), some (.map kt et) => match keyKind P kt, w.mapOf r with
   | some d, some l => if flat k && zflat P et then match mapFind d k l 0 with
    | some (some (_, v)) => some (if ok then .tuple #[v, .bool true] else v)
    | some none => match (P.info? et).bind (·.zero) with
      | some z => some (if ok then .tuple #[z, .bool false] else z)
      | none => none
    | none => none
     else none
   | _, _ => none
 | _, _ => none
def evPure (P : Program) (t : Tr Value) (o : Oper) : Option Value :=
 let ρ := eval t
 match o.op with
 | .move x | .assign x => some (ρ x)
 | .pick c a b => match ρ c with
   | .bool q => some (if q then ρ a else ρ b)
   | _ => none
 | .extract x i => match ρ x with
   | .tuple vs => vs[i]?
   | _ => none
 | .nilCheck x => match ρ x with
   | .pointer (some a) => some (.pointer (some a))
   | .func (.func g) first caps => some (.func (.func g) first caps)
   | _ => none
 | .makeFunc fn first caps => some (.func fn (first.map ρ) (caps.map ρ))
 | .field ty x f =>
   if flat (ρ x) then match pureRun P (execOp ρ o) with
    | some (.value v) => if flat v then some v else none
    | _ => none
   else evField P ty (ρ x) f
 | .index ty x ix =>
   if flat (ρ x) && flat (ρ ix) then match pureRun P (execOp ρ o) with
    | some (.value v) => if flat v then some v else none
    | _ => none
   else evIndex P ty (ρ x) (ρ ix)
 | .fieldAddr s x f => match ρ x, P.underlying s with
   | .pointer (some a), some (.struct fs) => match fs[f]? with
     | some fd => if 0 < P.cellsOf fd.type then some (.pointer (some (a.add fd.offset))) else none
     | none => none
   | _, _ => none
 | .indexAddr ty x ix => match ρ ix, ρ x, P.underlying ty with
   | .int _ i, .slice (some a) n _, some (.slice e) => if 0 ≤ i ∧ i < n ∧ 0 < P.cellsOf e then some (.pointer (some (a.add (i.toNat * P.cellsOf e)))) else none
   | .int _ i, .pointer (some a), some (.array n e) => if 0 ≤ i ∧ i < n ∧ 0 < P.cellsOf e then some (.pointer (some (a.add (i.toNat * P.cellsOf e)))) else none
   | _, _, _ => none
 | .sliceToArrayPointer ty x => match ρ x, P.underlying ty with
   | .slice (some a) n _, some (.array m _) => if m ≤ n then some (.pointer (some a)) else none
   | _, _ => none
 | .call c => if o.op.operands.toList.all fun x => flat (ρ x) then match pureRun P (execOp ρ o) with
  | some (.value v) => if flat v then some v else none
  | _ => none
   else evLen P ρ c
 | .binOp op ty x y _ =>
   if flat (ρ x) && flat (ρ y) then match pureRun P (execOp ρ o) with
    | some (.value v) => if flat v then some v else none
    | _ => none
   else match op with
    | .eql => (nilEq P ty (ρ x) (ρ y)).map .bool
    | .neq => (nilEq P ty (ρ x) (ρ y)).map fun b => .bool !b
    | _ => none
 | _ =>
   if o.op.operands.toList.all fun x => flat (ρ x) then match pureRun P (execOp ρ o) with
    | some (.value v) => if flat v then some v else none
    | _ => none
   else none
def isPure (t : Tr Value) : Op → Bool
 | .move _ | .assign _ | .pick .. | .extract .. | .nilCheck _ | .fieldAddr .. | .indexAddr .. | .sliceToArrayPointer .. | .binOp .. | .unOp .. | .field .. | .index .. | .makeFunc .. => true
 | .convert _ _ x => match eval t x with
   | .slice _ _ _ | .string _ => false
   | _ => true
 | .build _ ps => ps.toList.all fun x => flat (eval t x.2)
 | .slice _ x _ _ _ => match eval t x with
   | .string _ => true
   | _ => false
 | .call c => match c.callee with
   | .builtin .len | .builtin .max | .builtin .min => true
   | _ => false
 | _ => false
def boundOf (d : Int) : Option Value → Option Int
 | none => some d
 | some (.int _ i) => some i
 | some _ => none
def evSlice (P : Program) (w : AW) (t : TypeId) (x : Value) (lo hi : Option Value) : Option Value :=
 match boundOf 0 lo with
 | none => none
 | some l =>
   match x, P.underlying t with
   | .slice (some a) n c, some (.slice e) =>
     match boundOf n hi, w.heap.get a.block with
     | some h, some b => if 0 ≤ l ∧ l ≤ h ∧ h ≤ c ∧ b.kind ≠ 2 ∧ (b.kind = 0 ∨ l < c) ∧ 0 < P.cellsOf e then some (.slice (some (if c = l.toNat then a else a.add (l.toNat * P.cellsOf e))) (h.toNat - l.toNat) (c - l.toNat)) else none
     | _, _ => none
   | .slice none 0 0, some (.slice e) =>
     match boundOf 0 hi with
     | some h => if l = 0 ∧ h = 0 ∧ 0 < P.cellsOf e then some (.slice none 0 0) else none
     | none => none
   | .pointer (some a), some (.array n e) =>
     match boundOf n hi, w.heap.get a.block with
     | some h, some b => if 0 ≤ l ∧ l ≤ h ∧ h ≤ n ∧ b.kind = 0 ∧ 0 < P.cellsOf e then some (.slice (some (if n = l.toNat then a else a.add (l.toNat * P.cellsOf e))) (h.toNat - l.toNat) (n - l.toNat)) else none
     | _, _ => none
   | _, _ => none
def srcCells (w : AW) (size : Nat) : Value → Option (Nat × List Value)
 | .slice none 0 0 => some (0, [])
 | .slice (some a) n _ =>
   match a.spot, w.heap.get a.block with
   | none, some b => if b.kind ≠ 2 ∧ a.off + n * size ≤ b.cells.length then some (n, (b.cells.drop a.off).take (n * size)) else none
   | _, _ => none
 | .string s => if size = 1 then some (s.size, s.data.toList.map fun b => .int .u8 b.toNat) else none
 | _ => none
def storeAll (w : AW) (a : Addr) : List Value → Nat → Option AW
 | [], _ => some w
 | v :: r, i => match w.setCell (a.add i) v with
   | some w' => storeAll w' a r (i + 1)
   | none => none
def notInt (P : Program) (t : TypeId) : Bool :=
 match P.underlying t with
 | some (.slice _) | some .string => true
 | _ => false
def evAppend (P : Program) (w : AW) (ty1 ty2 : TypeId) (s x : Value) : Option (Value × AW) :=
 match P.underlying ty1 with
 | some (.slice e) =>
   match P.info? e with
   | some i =>
     if zflat P e && notInt P ty2 && decide (i.bytes ≤ 100000) && decide (0 < i.size) then
      match srcCells w i.size x with
      | some (n, new) =>
        if !new.all Value.oneCell' then none else
        match s with
        | .slice none 0 0 =>
          if n = 0 then some (.slice none 0 0, w)
          else if n ≤ 1000000 then match w.new ⟨new, e, 1⟩ with
           | some w' => some (.slice (some ⟨w.next, 0, none⟩) n n, w')
           | none => none
          else none
        | .slice (some a) m c =>
          if m + n ≤ c then
           match storeAll w (a.add (m * i.size)) new 0 with
           | some w' => some (.slice (some a) (m + n) c, w')
           | none => none
          else match a.spot, w.heap.get a.block with
           | none, some b =>
             if m + n ≤ 1000000 ∧ a.off = 0 ∧ c * i.size = b.cells.length ∧ m ≤ c ∧ b.elem = e then
              if b.kind = 0 then match w.new ⟨b.cells.take (m * i.size) ++ new, e, 1⟩ with
               | some w' => some (.slice (some ⟨w.next, 0, none⟩) (m + n) (m + n), w')
               | none => none
              else if b.kind = 1 then match w.upd a.block { b with kind := 2 } with
               | some w1 => match w1.new ⟨b.cells.take (m * i.size) ++ new, e, 1⟩ with
                 | some w' => some (.slice (some ⟨w.next, 0, none⟩) (m + n) (m + n), w')
                 | none => none
               | none => none
              else none
             else none
           | _, _ => none
        | _ => none
      | none => none
     else none
   | none => none
 | _ => none
def evCopy (P : Program) (w : AW) (ty1 : TypeId) (s x : Value) : Option (Value × AW) :=
 match P.underlying ty1 with
 | some (.slice e) =>
   match P.info? e with
   | some i =>
     match srcCells w i.size x with
     | some (n, new) =>
       if !new.all Value.oneCell' then none else
       match s with
       | .slice none 0 0 => some (.int .i64 0, w)
       | .slice (some a) m _ =>
         match storeAll w a (new.take (Nat.min n m * i.size)) 0 with
         | some w' => some (.int .i64 (Nat.min n m), w')
         | none => none
       | _ => none
     | none => none
   | none => none
 | _ => none
def bytesOf : List Value → ByteArray → Option ByteArray
 | [], s => some s
 | .int .u8 n :: r, s => bytesOf r (s.push (UInt8.ofNat n.toNat))
 | _ :: _, _ => none
inductive AN where
 | value (v : Value)
 | skip
 | enter (f : FuncId) (args : Array Value)
def evMapPut (P : Program) (w : AW) (ty : TypeId) (m k x : Value) : Option AW :=
 match m, P.underlying ty with
 | .map (some r), some (.map kt _) => match keyKind P kt, w.mapOf r with
   | some d, some l => if flat k then match Instr.sameNow d k k, mapFind d k l 0 with
    | some _, some none => w.upd r ⟨mapMark :: (l ++ [.tuple #[k, x]]), 0, 2⟩
    | some _, some (some (i, _)) => w.upd r ⟨mapMark :: l.set i (.tuple #[k, x]), 0, 2⟩
    | _, _ => none
     else none
   | _, _ => none
 | _, _ => none
def mapHint (P : Program) (ρ : Operand → Value) (ty : TypeId) : Option Operand → Bool
 | none => true
 | some x => match ρ x, P.underlying ty with
   | .int _ _, some (.map _ _) => true
   | _, _ => false
def evClear (P : Program) (w : AW) (ty : TypeId) (s : Value) : Option AW :=
 match s, P.underlying ty with
 | .slice none 0 0, some (.slice _) => some w
 | .slice (some a) n _, some (.slice e) =>
   if n = 0 then some w
   else if zflat P e then match (P.info? e).bind (·.zero) with
    | some z => if z.cells.toList.all Value.oneCell' then storeAll w a (Builtin.zeroCells z.cells n).toList 0 else none
    | none => none
   else none
 | _, _ => none
def evConvert (P : Program) (w : AW) (s d : TypeId) (x : Value) : Option (AN × AW) :=
 match x, P.underlying s, P.underlying d with
 | .slice none 0 0, some (.slice e), some .string => match P.underlying e with
   | some (.int .u8) => some (.value (.string .empty), w)
   | _ => none
 | .slice (some a) n c, some (.slice e), some .string => match P.underlying e, srcCells w 1 (.slice (some a) n c) with
   | some (.int .u8), some (_, l) => match bytesOf l .empty with
     | some b => some (.value (.string b), w)
     | none => none
   | _, _ => none
 | .slice (some a) n c, some (.slice e), some (.slice e') => match s == d, P.underlying e, w.heap.get a.block with
   | true, some (.int .u8), some b => if b.kind < 2 ∧ e = e' then match w.upd a.block { b with kind := 1 } with
    | some w' => some (.value (.slice (some a) n c), w')
    | none => none
     else none
   | _, _, _ => none
 | .string b, some .string, some (.slice e) => match P.underlying e with
   | some (.int .u8) => match w.new ⟨b.data.toList.map fun b => .int .u8 b.toNat, e, 1⟩ with
     | some w' => if P.cellsOf e = 1 ∧ b.size ≤ 1000000 then some (.value (.slice (some ⟨w.next, 0, none⟩) b.size b.size), w') else none
     | none => none
   | _ => none
 | _, _, _ => none
def hasBody (P : Program) (f : FuncId) : Bool :=
 match P.funcs[f]? with
 | some fn => fn.name != "runtime.NumGoroutine" && fn.body.isSome
 | none => false
def evMem (P : Program) (t : Tr Value) (o : Oper) (w : AW) : Option (AN × AW) :=
 let ρ := eval t
 let val (r : Option (Value × AW)) : Option (AN × AW) := match r with
  | some (v, w') => some (.value v, w')
  | none => none
 match o.op with
 | .alloc e => if zflat P e then val (arun P (Instr.alloc e true (.tuple #[])) w) else none
 | .box e x => val (arun P (Instr.box e (ρ x)) w)
 | .build ty ps => if zflat P ty then val (arun P (Instr.build ty (ps.map fun (i, x) => (i, ρ x))) w) else none
 | .buildSlice ty n ps => match elemOf P ty with
   | some e => if zflat P e then val (arun P (Instr.buildSlice ty n (ps.map fun (i, x) => (i, ρ x))) w) else none
   | none => none
 | .makeSlice ty l c => match elemOf P ty with
   | some e => if zflat P e && flat (ρ l) && flat (ρ c) then val (arun P (Instr.makeSlice ty (ρ l) (ρ c)) w) else none
   | none => none
 | .store ty a x => match ρ a with
   | .pointer (some p) => match arun P (storeVar ty p (ρ x)) w with
     | some (_, w') => some (.skip, w')
     | none => none
   | _ => none
 | .slice ty x lo hi none => val ((evSlice P w ty (ρ x) (lo.map ρ) (hi.map ρ)).map fun v => (v, w))
 | .convert s d x => evConvert P w s d (ρ x)
 | .makeMap ty r => if mapHint P ρ ty r then match w.new ⟨[mapMark], 0, 2⟩ with
  | some w' => some (.value (.map (some w.next)), w')
  | none => none
   else none
 | .mapUpdate ty m k x => match evMapPut P w ty (ρ m) (ρ k) (ρ x) with
   | some w' => some (.skip, w')
   | none => none
 | .insert ty m k x => match evMapPut P w ty (ρ m) (ρ k) (ρ x) with
   | some w' => some (.skip, w')
   | none => none
 | .call c => match c.callee, c.args.toList, c.argTypes.toList with
   | .value f, _, _ => match ρ f with
     | .func (.func g) first caps => if hasBody P g then some (.enter g (first ++ c.args.map ρ ++ caps), w) else none
     | _ => none
   | .builtin .clear, [s], [ty] => match evClear P w ty (ρ s) with
     | some w' => some (.value (.tuple #[]), w')
     | none => none
   | .builtin .append, [s, x], [ty1, ty2] => val (evAppend P w ty1 ty2 (ρ s) (ρ x))
   | .builtin .copy, [s, x], [ty1, _] => val (evCopy P w ty1 (ρ s) (ρ x))
   | _, _, _ => none
 | _ => none
def evLoad (P : Program) (t : Tr Value) (o : Oper) (w : AW) : Option Value :=
 match o.op with
 | .load ty a => match eval t a with
   | .pointer (some p) => match arun P (loadVar ty p) w with
     | some (v, _) => some v
     | none => none
   | _ => none
 | .slice ty x lo hi none => match evSlice P w ty (eval t x) (lo.map (eval t)) (hi.map (eval t)) with
   | some v => some v
   | none => evPure P t o
 | .lookup ty m k ok => evLookup P w ty (eval t m) (eval t k) ok
 | _ => none
def isFloat (t : Tr Value) (o : Op) : Bool := isLoad o || isPure t o
def evFloat (P : Program) (t : Tr Value) (o : Oper) (w : AW) : Option Value :=
 if isLoad o.op then evLoad P t o w else evPure P t o
def evOp (P : Program) (t : Tr Value) (o : Oper) (w : AW) : Option (AN × AW) :=
 if o.op.operands.toList.all okOpnd then
  if isFloat t o.op then match evFloat P t o w with
   | some v => some (.value v, w)
   | none => none
  else evMem P t o w
 else none
inductive Ex where
 | normal | exit (id : Nat) | ret
structure St where
 tmps : Tr Value
 n : Nat
 w : AW
def guardYes (ops : Array Oper) (t : Tr Value) (o : Oper) : Option Bool :=
 match o.guard with
 | none => some true
 | some (j, want) => match (ops[j]?).bind (·.dst) with
   | some d => match t.get d with
     | some (.bool b) => some (b == want)
     | some (.tuple _) => some false
     | _ => none
   | none => none
def St.put (s : St) (dst : Option Tmp) (v : Value) (w : AW) : Option St :=
 match dst with
 | some d => if d < s.n then match s.tmps.put d v with
  | some t => some ⟨t, s.n, w⟩
  | none => none
   else none
 | none => some ⟨s.tmps, s.n, w⟩
abbrev CallF := FuncId → Array Value → AW → Option (Value × AW)
def stepV (P : Program) (call : CallF) (ops : Array Oper) (t : Tr Value) (o : Oper) (a : AW) : Option (Value × AW) :=
 match guardYes ops t o with
 | some false => some (undef, a)
 | some true => match evOp P t o a with
   | some (.value v, a1) => some (v, a1)
   | some (.skip, a1) => some (undef, a1)
   | some (.enter f args, a1) => call f args a1
   | none => none
 | none => none
def step (P : Program) (call : CallF) (ops : Array Oper) (o : Oper) (s : St) : Option St :=
 match stepV P call ops s.tmps o s.w with
 | some (v, a) => s.put o.dst v a
 | none => none
def evOps (P : Program) (call : CallF) (ops : Array Oper) : List Oper → St → Option St
 | [], s => some s
 | o :: rest, s => match step P call ops o s with
   | some s' => evOps P call ops rest s'
   | none => none
def trace (P : Program) (call : CallF) (ops : Array Oper) : List Oper → St → Option (List St)
 | [], s => some [s]
 | o :: rest, s => match step P call ops o s with
   | some s' => match trace P call ops rest s' with
     | some l => some (s :: l)
     | none => none
   | none => none
def maskOf (acc : List Nat) : List Edge → Nat
 | [] => 0
 | e :: r => if Region.binds .any e then (2 ^ e.on ||| acc.getD e.on 0) ||| maskOf acc r else maskOf acc r
def masks : List Oper → List Nat → List Nat
 | [], acc => acc
 | o :: r, acc => masks r (acc ++ [maskOf acc o.after.toList])
def eqAtom : Value → Value → Bool
 | .bool a, .bool b => a == b
 | .int j a, .int k b => decide (j = k) && a == b
 | .string a, .string b => a.data.toList == b.data.toList
 | .pointer a, .pointer b => decide (a = b)
 | .slice a n c, .slice a' n' c' => decide (a = a') && n == n' && c == c'
 | .nilIface, .nilIface => true
 | .nilFunc, .nilFunc => true
 | _, _ => false
def eqList : List Value → List Value → Bool
 | [], [] => true
 | a :: l, b :: m => eqAtom a b && eqList l m
 | _, _ => false
def eqV : Value → Value → Bool
 | .agg a, .agg b => eqList a.toList b.toList
 | a, b => eqAtom a b
def unwritten (a b : AW) (i : Nat) : Bool :=
 (match a.last.get i with
  | some t => decide (t < min a.clock b.clock)
  | none => true) &&
 (match b.last.get i with
  | some t => decide (t < min a.clock b.clock)
  | none => true)
def still (t : Tr Value) (o : Op) (a b : AW) : Bool :=
 match o with
 | .load _ x => match eval t x with
   | .pointer (some p) => unwritten a b p.block
   | _ => false
 | .lookup _ x _ _ => match eval t x with
   | .map (some r) => unwritten a b r
   | _ => false
 | _ => false
def bounded : Nat → Nat → Value → Bool
 | 0, n, v => match v with
   | .pointer (some a) => decide (a.block < n)
   | .slice (some a) _ _ => decide (a.block < n)
   | .map (some r) => decide (r < n)
   | v => flat v
 | d + 1, n, v => match v with
   | .agg cs => cs.toList.all (bounded d n)
   | .tuple cs => cs.toList.all (bounded d n)
   | .func _ cs ds => cs.toList.all (bounded d n) && ds.toList.all (bounded d n)
   | .pointer (some a) => decide (a.block < n)
   | .slice (some a) _ _ => decide (a.block < n)
   | .map (some r) => decide (r < n)
   | v => flat v
def isAlloc : Op → Bool
 | .alloc _ => true
 | _ => false
def lateOnes (ops : Array Oper) (sts : List St) : List Nat :=
 let ms := masks ops.toList []
 let il := ops.toList.zipIdx
 let non := (il.filter fun x => !isFloat (match sts[x.2]? with | some s => s.tmps | none => .lf) x.1.op).map (·.2)
 (il.filter fun x => isAlloc x.1.op && x.1.guard.isNone && non.any fun c => decide (c < x.2) && !(ms.getD x.2 0).testBit c).map (·.2)
def orderFree (P : Program) (call : CallF) (ops : Array Oper) (sts : List St) (lates : List Nat) : Bool :=
 let l := ops.toList
 let ms := masks l []
 let before (i j : Nat) : Bool := (ms.getD i 0).testBit j
 let tm (i : Nat) : Tr Value := match sts[i]? with | some s => s.tmps | none => .lf
 let il := l.zipIdx
 let non := (il.filter fun x => !isFloat (tm x.2) x.1.op).map (·.2)
 let chain := non.filter fun c => !lates.contains c
 (il.all fun x => x.1.after.toList.all fun e => !Region.binds .any e || e.on < x.2) &&
 (il.all fun x => il.all fun y => x.2 == y.2 || match y.1.dst with
  | some d => x.1.dst != some d && (!(x.1.looksAt ops).contains d || before (max x.2 y.2) (min x.2 y.2))
  | none => true) &&
 (chain.all fun c => chain.all fun c' => !(c < c') || before c' c) &&
 (il.all fun x => !isLoad x.1.op || (0 :: chain.map (· + 1)).all fun k =>
  !((chain.all fun c => !(c < k) || !before c x.2) && (chain.all fun c => c < k || !before x.2 c)) ||
  (non.all fun c => !(min k x.2 ≤ c && c < max k x.2)) ||
  match sts[k]?, sts[x.2]? with
  | some sk, some si => still si.tmps x.1.op sk.w si.w || match stepV P call ops si.tmps x.1 sk.w, stepV P call ops si.tmps x.1 si.w with
    | some (v, _), some (v', _) => eqV v v'
    | _, _ => false
  | _, _ => false) &&
 (il.all fun x => !lates.contains x.2 || (isAlloc x.1.op && x.1.guard.isNone && chain.all fun c => !(x.2 < c) || before c x.2)) &&
 (lates.isEmpty || il.all fun x => !chain.contains x.2 || match sts[x.2]? with
  | some si => (x.1.looksAt ops).all fun k => bounded 4 si.w.next ((si.tmps.get k).getD undef)
  | none => false)
def evDraw (P : Program) (call : CallF) (ops : Array Oper) (s : St) : Option St :=
 match trace P call ops ops.toList s with
 | some sts => if orderFree P call ops sts (lateOnes ops sts) then sts[ops.size]? else none
 | none => none
def evResults (P : Program) (t : Tr Value) (w : AW) : List ResultVar → Option (List Value)
 | [] => some []
 | .tmp r :: rest => match evResults P t w rest with
   | some l => some ((t.get r).getD undef :: l)
   | none => none
 | .cell r ty :: rest => match (t.get r).getD undef with
   | .pointer (some p) => match arun P (loadVar ty p) w with
     | some (v, _) => match evResults P t w rest with
       | some l => some (v :: l)
       | none => none
     | none => none
   | _ => none
def tupled : List Value → Value
 | [v] => v
 | l => .tuple l.toArray
def initTmps : Nat → List Value → Tr Value → Option (Tr Value)
 | _, [], t => some t
 | i, v :: r, t => match t.put i v with
   | some t' => initTmps (i + 1) r t'
   | none => none
def evBody (P : Program) (ev : Code → St → Option (Ex × St)) : CallF := fun f args w =>
 match P.funcs[f]? with
 | some fn => match fn.body, initTmps 0 args.toList .lf with
   | some c, some t => if args.size ≤ fn.ntmps then match ev c ⟨t, fn.ntmps, w⟩ with
     | some (.normal, s) | some (.ret, s) => match evResults P s.tmps s.w fn.results.toList with
       | some l => some (tupled l, s.w)
       | none => none
     | _ => none
     else none
   | _, _ => none
 | none => none
def evC (P : Program) : Nat → Code → St → Option (Ex × St)
 | 0, _, _ => none
 | n + 1, c, s =>
   match c with
   | .skip => some (.normal, s)
   | .label _ => some (.normal, s)
   | .region _ ops draw => match (if draw then evDraw P (evBody P (evC P n)) ops s else evOps P (evBody P (evC P n)) ops ops.toList s) with
     | some s' => some (.normal, s')
     | none => none
   | .seq a b => match evC P n a s with
     | some (.normal, s') => evC P n b s'
     | r => r
   | .cond c t e => match c with
     | .tmp _ => match eval s.tmps c with
       | .bool true => evC P n t s
       | .bool false => evC P n e s
       | _ => none
     | _ => none
   | .block id b => match evC P n b s with
     | some (.exit i, s') => if i = id then some (.normal, s') else some (.exit i, s')
     | r => r
   | .loop b => match evC P n b s with
     | some (.normal, s') => evC P n (.loop b) s'
     | r => r
   | .exit id => some (.exit id, s)
   | .ret => some (.ret, s)
   | _ => none
end Ev
end Go.Proofs.YtedmogacklbcmaaGreatDoor
