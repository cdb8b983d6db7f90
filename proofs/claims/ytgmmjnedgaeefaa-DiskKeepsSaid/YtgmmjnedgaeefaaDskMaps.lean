/- disk: maps of strings, as a law keeps them. -/
import Derived.Test.YtgmmjnedgaeefaaDskMem
namespace Go.Proofs.Ytgmmjnedgaeefaa.Dsk
open Go.RowKit Go.Maps Go.Sort
def strElem (v : Value) : Option (MD × List MemPlace) := match v with
  | .string s => some (.lit (.string s.data.toList), [])
  | _ => none
theorem strElem_mk (x : Name) : strElem (.string { data := x.toArray }) = some (.lit (.string x), []) := by simp [strElem]
theorem strElem_inv {v : Value} {x : Name} {ps : List MemPlace} (h : strElem v = some (.lit (.string x), ps)) : v = .string { data := x.toArray } := by
  unfold strElem at h
  split at h
  · rename_i s
    simp only [Option.some.injEq, Prod.mk.injEq, DataW.lit.injEq, Lit.string.injEq] at h
    obtain ⟨rfl, _⟩ := h
    simp
  · cases h
/-- A map of one's own in which these strings are. -/
def SM (w : World) (m n : Nat) (f : Name → Option Name) : Prop := ∃ D, w.ownsMap Try.prog 9 strElem m n D ∧
  ∀ s, (f s = none → Maps.has D (.string s) = false) ∧ ∀ x, f s = some x → Maps.has D (.string s) = true ∧ ∀ z, D.atKey (.string s) z = .lit (.string x)
theorem SM.made (w : World) : SM (w.alloc (.map #[] 0)) w.heap.size 0 fun _ => none :=
  ⟨_, World.ownsMap_made w Try.prog 9 strElem, fun s => ⟨fun _ => rfl, fun x h => by cases h⟩⟩
theorem SM.lt {w : World} {m n : Nat} {f : Name → Option Name} (h : SM w m n f) : m < w.heap.size := by
  obtain ⟨D, h1, _⟩ := h
  exact h1.lt
theorem SM.keep {S : Nat → Prop} {w w' : World} {m n : Nat} {f : Name → Option Name} (h : SM w m n f) (hk : Keep S w w') (hS : ¬ S m) : SM w' m n f := by
  obtain ⟨D, ⟨es, clock, hb, r⟩, h2⟩ := h
  refine ⟨D, ⟨es, clock, ?_, r⟩, h2⟩
  rw [hk.block m (Array.getElem?_eq_some_iff.1 hb).1 hS]
  exact hb
theorem SM.below {w w' : World} {m n : Nat} {f : Name → Option Name} (h : SM w m n f) (hb : Below w.heap.size w w') : SM w' m n f := h.keep (Keep.of_new hb fun _ => False) id
theorem SM.cong {w : World} {m n : Nat} {f g : Name → Option Name} (h : SM w m n f) (hf : ∀ t, f t = g t) : SM w m n g := by
  have : f = g := funext hf
  exact this ▸ h
set_option maxRecDepth 100000 in
theorem zero_str (w : World) : (zeroValue 9).run Try.prog w = .ok (.string ⟨#[]⟩) w := rfl
theorem SM.get2 {w : World} {m n : Nat} {f : Name → Option Name} (h : SM w m n f) (s : Name) (hs : s.length ≤ maxLen) :
    (Instr.lookup 49 (.map (some m)) (.string { data := s.toArray }) true).run Try.prog w = .ok (.tuple #[.string { data := ((f s).getD []).toArray }, .bool (f s).isSome]) w := by
  obtain ⟨D, h1, h2⟩ := h
  obtain ⟨v, ps, hr, hv⟩ := h1.look_ok law_str Try.underlying49 (zero_str w) (strElem_mk []) (key_str hs)
  have hr' : (Instr.lookup 49 (.map (some m)) (.string { data := s.toArray }) true).run Try.prog w = .ok (.tuple #[v, .bool (Maps.has D (.string s))]) w := hr
  rw [hr']
  obtain ⟨k1, k2⟩ := h2 s
  cases hf : f s with
  | none =>
    rw [k1 hf]
    rw [atKey_of_not_has (k1 hf)] at hv
    rw [strElem_inv hv]
    rfl
  | some x =>
    obtain ⟨k3, k4⟩ := k2 x hf
    rw [k3]
    rw [k4] at hv
    rw [strElem_inv hv]
    rfl
theorem SM.get {w : World} {m n : Nat} {f : Name → Option Name} (h : SM w m n f) (s : Name) (hs : s.length ≤ maxLen) :
    (Instr.lookup 49 (.map (some m)) (.string { data := s.toArray }) false).run Try.prog w = .ok (.string { data := ((f s).getD []).toArray }) w := by
  obtain ⟨D, h1, h2⟩ := h
  obtain ⟨v, ps, hr, hv⟩ := h1.lookup law_str Try.underlying49 (zero_str w) (strElem_mk []) (key_str hs)
  have hr' : (Instr.lookup 49 (.map (some m)) (.string { data := s.toArray }) false).run Try.prog w = .ok v w := hr
  rw [hr']
  obtain ⟨k1, k2⟩ := h2 s
  cases hf : f s with
  | none =>
    rw [atKey_of_not_has (k1 hf)] at hv
    rw [strElem_inv hv]
    rfl
  | some x =>
    rw [(k2 x hf).2] at hv
    rw [strElem_inv hv]
    rfl
theorem SM.put {w : World} {m n : Nat} {f : Name → Option Name} (h : SM w m n f) (hn : n < maxLen) (s x : Name) (hs : s.length ≤ maxLen) :
    ∃ w', (Instr.mapUpdate 49 (.map (some m)) (.string { data := s.toArray }) (.string { data := x.toArray })).run Try.prog w = .ok () w' ∧ SM w' m (n + 1) (fun t => if t = s then some x else f t) ∧ Keep (fun b => b = m) w w' := by
  obtain ⟨D, h1, h2⟩ := h
  obtain ⟨w', k1, k2, k3⟩ := h1.store law_str Try.underlying49 hn (key_str hs) (strElem_mk x)
  refine ⟨w', k1, ⟨_, k2, fun t => ?_⟩, Keep.of_turned k3⟩
  by_cases ht : t = s
  · subst ht
    refine ⟨fun e => by simp at e, fun y hy => ?_⟩
    simp only [if_true, Option.some.injEq] at hy
    subst hy
    exact ⟨has_put_same h1.isMap (show WideAt.IsKeyLit (.string t) from trivial) _, fun z => atKey_put_same h1.isMap (show WideAt.IsKeyLit (.string t) from trivial) _ _⟩
  · simp only [if_neg ht]
    rw [has_put_other (by simpa using ht)]
    refine ⟨(h2 t).1, fun y hy => ⟨((h2 t).2 y hy).1, fun z => ?_⟩⟩
    rw [atKey_put_other (by simpa using ht)]
    exact ((h2 t).2 y hy).2 z
theorem SM.drop {w : World} {m n : Nat} {D : MD} {f : Name → Option Name} {s : Name} (h1 : w.ownsMap Try.prog 9 strElem m n (D.del (.string s))) (h2 : ∀ s, (f s = none → Maps.has D (.string s) = false) ∧ ∀ x, f s = some x → Maps.has D (.string s) = true ∧ ∀ z, D.atKey (.string s) z = .lit (.string x)) :
    SM w m n (fun t => if t = s then none else f t) := by
  refine ⟨_, h1, fun t => ?_⟩
  by_cases ht : t = s
  · subst ht
    exact ⟨fun _ => has_del_same, fun y hy => by simp at hy⟩
  · simp only [if_neg ht]
    rw [has_del_other (by simpa using ht)]
    refine ⟨(h2 t).1, fun y hy => ⟨((h2 t).2 y hy).1, fun z => ?_⟩⟩
    rw [atKey_del_other (by simpa using ht)]
    exact ((h2 t).2 y hy).2 z
theorem wpList_delete_sm {w : World} {ops : Array Oper} {rest : List Oper} {o : Oper} {a : Act} {Q : Exit → Act → World → Prop} (hg : o.guard = none) (mo xo : Operand) (hop : o.op = Op.call { callee := Callee.builtin Builtin.delete, args := #[mo, xo], argTypes := #[49, 9] })
    {m n : Nat} {f : Name → Option Name} (h : SM w m n f) (s : Name) (hs : s.length ≤ maxLen) (hm : a.eval mo = .map (some m)) (hx : a.eval xo = .string { data := s.toArray })
    (hK : ∀ w', SM w' m n (fun t => if t = s then none else f t) → Keep (fun b => b = m) w w' → wpList Try.prog ops Q rest (a.put o.dst (.tuple #[])) w') : wpList Try.prog ops Q (o :: rest) a w := by
  obtain ⟨D, h1, h2⟩ := h
  exact wpList_delete_own w hg mo xo 49 9 hop 9 law_str Try.underlying49 strElem m n D hm h1 (.string { data := s.toArray }) (.string s) hx (key_str hs) fun w' k1 k2 => hK w' (SM.drop k1 h2) (Keep.of_turned k2)
theorem SM.len0 {w : World} {m n : Nat} {f : Name → Option Name} (h : SM w m n f) (h0 : ∀ t, f t = none) (ty : TypeId) : (Builtin.len_ #[49] ty #[.map (some m)]).run Try.prog w = .ok (.int .i64 0) w := by
  obtain ⟨D, h1, h2⟩ := h
  rw [h1.len Try.underlying49 ty]
  obtain ⟨es, hD, hk⟩ := h1.keysOf
  subst hD
  cases es with
  | nil => rfl
  | cons p r =>
    exfalso
    obtain ⟨v, hv⟩ := hk p List.mem_cons_self
    obtain ⟨x, _, hx, _⟩ := Maps.keyOf_str Try.underlying9 hv
    have h3 := (h2 x).1 (h0 x)
    have h4 : p.1.sameKey (.string x) = true := by rw [hx]; simp [Lit.sameKey]
    have h5 : Maps.has (.map (p :: r) : MD) (.string x) = (p.1.sameKey (.string x) || r.any fun q => q.1.sameKey (.string x)) := rfl
    rw [h5, h4] at h3
    simp at h3
end Go.Proofs.Ytgmmjnedgaeefaa.Dsk
