/- Texts that the proofs share: EvRel. -/
import Derived.Test.YtedmogacklbcmaaGreatDoorS01
namespace Go.Proofs.YtedmogacklbcmaaGreatDoor
namespace Ev
open Go.RowKit
structure BI where
 blk : Nat
 off : Nat
 ext : Nat
abbrev Pl := Nat → Option BI
def Le (β β1 : Pl) : Prop := ∀ i b, β i = some b → β1 i = some b
theorem Le.refl (β : Pl) : Le β β := fun _ _ h => h
theorem Le.trans {a b c : Pl} (h : Le a b) (k : Le b c) : Le a c := fun i x hx => k i x (h i x hx)
def VA (β : Pl) (a a' : Addr) : Prop := a.spot = none ∧ ∃ bi, β a.block = some bi ∧ a' = ⟨bi.blk, bi.off + a.off, none⟩
inductive VR (β : Pl) : Value → Value → Prop where
 | flat {v : Value} (h : flat v = true) : VR β v v
 | ptr {a a' : Addr} (h : VA β a a') : VR β (.pointer (some a)) (.pointer (some a'))
 | slice {a a' : Addr} {n c : Nat} {bi : BI} (h : VA β a a') (hb : β a.block = some bi) : VR β (.slice (some a) n c) (.slice (some a') n (c + bi.ext))
 | agg {cs cs' : Array Value} (hs : cs.size = cs'.size) (h : ∀ (i : Nat) (v v' : Value), cs[i]? = some v → cs'[i]? = some v' → VR β v v') : VR β (.agg cs) (.agg cs')
 | tuple {cs cs' : Array Value} (hs : cs.size = cs'.size) (h : ∀ (i : Nat) (v v' : Value), cs[i]? = some v → cs'[i]? = some v' → VR β v v') : VR β (.tuple cs) (.tuple cs')
 | func (fn : Fn) {cs cs' ds ds' : Array Value} (hs : cs.size = cs'.size) (h : ∀ (i : Nat) (v v' : Value), cs[i]? = some v → cs'[i]? = some v' → VR β v v')
  (ks : ds.size = ds'.size) (k : ∀ (i : Nat) (v v' : Value), ds[i]? = some v → ds'[i]? = some v' → VR β v v') : VR β (.func fn cs ds) (.func fn cs' ds')
 | map {r : Nat} {bi : BI} (h : β r = some bi) : VR β (.map (some r)) (.map (some bi.blk))
theorem VA.mono {β β1 : Pl} {a a' : Addr} (h : VA β a a') (hl : Le β β1) : VA β1 a a' := by
 obtain ⟨h1, bi, h2, h3⟩ := h
 exact ⟨h1, bi, hl _ _ h2, h3⟩
theorem VR.mono {β β1 : Pl} {v v' : Value} (h : VR β v v') (hl : Le β β1) : VR β1 v v' := by
 induction h with
 | flat h => exact .flat h
 | ptr h => exact .ptr (h.mono hl)
 | slice h hb => exact .slice (h.mono hl) (hl _ _ hb)
 | agg hs _ ih => exact .agg hs fun i v v' h1 h2 => ih i v v' h1 h2
 | tuple hs _ ih => exact .tuple hs fun i v v' h1 h2 => ih i v v' h1 h2
 | func fn hs _ ks _ ih ik => exact .func fn hs (fun i v v' h1 h2 => ih i v v' h1 h2) ks (fun i v v' h1 h2 => ik i v v' h1 h2)
 | map h => exact .map (hl _ _ h)
theorem VA.add {β : Pl} {a a' : Addr} (h : VA β a a') (n : Nat) : VA β (a.add n) (a'.add n) := by
 obtain ⟨h1, bi, h2, rfl⟩ := h
 unfold Addr.add
 by_cases hn : n = 0
 · simp only [hn, if_true]; exact ⟨h1, bi, h2, rfl⟩
 · simp only [hn, if_false]
   exact ⟨rfl, bi, h2, by simp [Nat.add_assoc]⟩
def VL (β : Pl) (l l' : List Value) : Prop := l.length = l'.length ∧ ∀ (i : Nat) (v v' : Value), l[i]? = some v → l'[i]? = some v' → VR β v v'
theorem VL.nil (β : Pl) : VL β [] [] := ⟨rfl, by simp⟩
theorem VL.mono {β β1 : Pl} {l l' : List Value} (h : VL β l l') (hl : Le β β1) : VL β1 l l' := ⟨h.1, fun i v v' h1 h2 => (h.2 i v v' h1 h2).mono hl⟩
theorem VL.cons {β : Pl} {v v' : Value} {l l' : List Value} (h : VR β v v') (k : VL β l l') : VL β (v :: l) (v' :: l') := by
 refine ⟨by simp [k.1], fun i x x' h1 h2 => ?_⟩
 cases i with
 | zero => simp at h1 h2; subst h1; subst h2; exact h
 | succ i => simp at h1 h2; exact k.2 i x x' h1 h2
theorem VL.head {β : Pl} {v v' : Value} {l l' : List Value} (h : VL β (v :: l) (v' :: l')) : VR β v v' := h.2 0 v v' rfl rfl
theorem VL.tail {β : Pl} {v v' : Value} {l l' : List Value} (h : VL β (v :: l) (v' :: l')) : VL β l l' := ⟨by simpa using h.1, fun i x x' h1 h2 => h.2 (i + 1) x x' (by simpa using h1) (by simpa using h2)⟩
theorem VL.get {β : Pl} {l l' : List Value} (h : VL β l l') {i : Nat} {v : Value} (hv : l[i]? = some v) : ∃ v', l'[i]? = some v' ∧ VR β v v' := by
 have hl : i < l.length := (List.getElem?_eq_some_iff.1 hv).1
 have hl' : i < l'.length := h.1 ▸ hl
 exact ⟨l'[i], List.getElem?_eq_getElem hl', h.2 i v _ hv (List.getElem?_eq_getElem hl')⟩
theorem VL.append {β : Pl} {l l' m m' : List Value} (h : VL β l l') (k : VL β m m') : VL β (l ++ m) (l' ++ m') := by
 refine ⟨by simp [h.1, k.1], fun i v v' h1 h2 => ?_⟩
 by_cases hi : i < l.length
 · rw [List.getElem?_append_left hi] at h1
   rw [List.getElem?_append_left (h.1 ▸ hi)] at h2
   exact h.2 i v v' h1 h2
 · rw [List.getElem?_append_right (by omega)] at h1
   rw [List.getElem?_append_right (by rw [← h.1]; omega), ← h.1] at h2
   exact k.2 _ v v' h1 h2
theorem VL.take {β : Pl} {l l' : List Value} (h : VL β l l') (n : Nat) : VL β (l.take n) (l'.take n) := by
 refine ⟨by simp [h.1], fun i v v' h1 h2 => ?_⟩
 rw [List.getElem?_take] at h1 h2
 split at h1
 · rename_i hi; rw [if_pos hi] at h2; exact h.2 i v v' h1 h2
 · cases h1
theorem VL.drop {β : Pl} {l l' : List Value} (h : VL β l l') (n : Nat) : VL β (l.drop n) (l'.drop n) := by
 refine ⟨by simp [h.1], fun i v v' h1 h2 => ?_⟩
 rw [List.getElem?_drop] at h1 h2
 exact h.2 _ v v' h1 h2
theorem VL.set {β : Pl} {l l' : List Value} (h : VL β l l') (n : Nat) {v v' : Value} (hv : VR β v v') : VL β (l.set n v) (l'.set n v') := by
 refine ⟨by simp [h.1], fun i x x' h1 h2 => ?_⟩
 rw [List.getElem?_set] at h1 h2
 by_cases hi : n = i
 · subst hi
   rw [if_pos rfl] at h1 h2
   have hlen := h.1
   by_cases hn : n < l.length
   · rw [if_pos hn] at h1
     rw [if_pos (by omega)] at h2
     injection h1 with h1; injection h2 with h2; subst h1; subst h2; exact hv
   · rw [if_neg hn] at h1; cases h1
 · rw [if_neg hi] at h1 h2; exact h.2 i x x' h1 h2
theorem VL.of_flat {β : Pl} {l : List Value} (h : ∀ v ∈ l, flat v = true) : VL β l l :=
 ⟨rfl, fun i v v' h1 h2 => by rw [h1] at h2; injection h2 with h2; subst h2; exact .flat (h v (List.mem_of_getElem? h1))⟩
theorem VL.push {β : Pl} {l l' : List Value} (h : VL β l l') {v v' : Value} (hv : VR β v v') : VL β (l ++ [v]) (l' ++ [v']) := h.append (.cons hv (.nil β))
theorem atom_flat {v : Value} (h : atom v = true) : flat v = true := by
 unfold atom at h
 split at h <;> first | rfl | cases h
theorem VR.flat_eq {β : Pl} {v v' : Value} (h : VR β v v') (hf : Ev.flat v = true) : v' = v := by
 have hat : ∀ {w w' : Value}, VR β w w' → atom w = true → w' = w := by
  intro w w' hw ha
  cases hw with
  | flat _ => rfl
  | ptr _ => simp [atom] at ha
  | slice _ _ => simp [atom] at ha
  | agg _ _ => simp [atom] at ha
  | tuple _ _ => simp [atom] at ha
  | func _ _ _ _ _ => simp [atom] at ha
  | map _ => simp [atom] at ha
 cases h with
 | flat _ => rfl
 | ptr _ => simp [Ev.flat, atom] at hf
 | slice _ _ => simp [Ev.flat, atom] at hf
 | agg hs h =>
   rename_i cs cs'
   congr 1
   apply Array.ext_getElem?
   intro i
   cases hi : cs[i]? with
   | none =>
     have : ¬ i < cs.size := by intro hlt; rw [Array.getElem?_eq_getElem hlt] at hi; cases hi
     exact Array.getElem?_eq_none (by omega)
   | some v =>
     have hlt : i < cs.size := (Array.getElem?_eq_some_iff.1 hi).1
     have hi' : cs'[i]? = some (cs'[i]'(by omega)) := Array.getElem?_eq_getElem (by omega)
     have hr := h i v _ hi hi'
     simp only [Ev.flat, List.all_eq_true] at hf
     have := hat hr (hf v (by rw [Array.mem_toList_iff]; exact Array.mem_of_getElem? hi))
     rw [hi', this]
 | tuple hs h =>
   rename_i cs cs'
   congr 1
   apply Array.ext_getElem?
   intro i
   cases hi : cs[i]? with
   | none =>
     have : ¬ i < cs.size := by intro hlt; rw [Array.getElem?_eq_getElem hlt] at hi; cases hi
     exact Array.getElem?_eq_none (by omega)
   | some v =>
     have hlt : i < cs.size := (Array.getElem?_eq_some_iff.1 hi).1
     have hi' : cs'[i]? = some (cs'[i]'(by omega)) := Array.getElem?_eq_getElem (by omega)
     have hr := h i v _ hi hi'
     simp only [Ev.flat, List.all_eq_true] at hf
     have := hat hr (hf v (by rw [Array.mem_toList_iff]; exact Array.mem_of_getElem? hi))
     rw [hi', this]
 | func _ _ _ _ _ => simp [Ev.flat, atom] at hf
 | map _ => simp [Ev.flat, atom] at hf
theorem VR.cells {β : Pl} {v v' : Value} (h : VR β v v') : VL β v.cells.toList v'.cells.toList := by
 cases h with
 | flat h =>
   cases v with
   | agg cs =>
     simp only [Value.cells]
     refine .of_flat fun x hx => ?_
     simp only [Ev.flat, List.all_eq_true] at h
     exact atom_flat (h x hx)
   | _ => exact .cons (.flat h) (.nil _)
 | ptr h => exact .cons (.ptr h) (.nil _)
 | slice h hb => exact .cons (.slice h hb) (.nil _)
 | agg hs h => exact ⟨by simpa [Value.cells] using hs, fun i v v' h1 h2 => h i v v' (by simpa [Value.cells] using h1) (by simpa [Value.cells] using h2)⟩
 | tuple hs h => exact .cons (.tuple hs h) (.nil _)
 | func fn hs h ks k => exact .cons (.func fn hs h ks k) (.nil _)
 | map h => exact .cons (.map h) (.nil _)
theorem VR.agg_of {β : Pl} {l l' : Array Value} (h : VL β l.toList l'.toList) : VR β (.agg l) (.agg l') :=
 .agg (by simpa using h.1) fun i v v' h1 h2 => h.2 i v v' (by simpa using h1) (by simpa using h2)
structure Base where
 w : World
 K : Nat → Prop
def Base.Mine (b : Base) (k : Nat) : Prop := b.w.heap.size ≤ k ∨ b.K k
structure Keep (b : Base) (w : World) : Prop where
 os : w.os = b.w.os
 tape : w.tape = b.w.tape
 output : w.output = b.w.output
 size : b.w.heap.size ≤ w.heap.size
 block : ∀ k, ¬ b.Mine k → w.heap[k]? = b.w.heap[k]?
theorem Keep.drew {b : Base} {w : World} (h : Keep b w) : Keep b w.drew := ⟨h.os, h.tape, h.output, h.size, h.block⟩
theorem Keep.alloc {b : Base} {w : World} (h : Keep b w) (o : Obj) : Keep b (w.alloc o) :=
 ⟨h.os, h.tape, h.output, by have := h.size; simp; omega, fun k hk => by
  have hs := h.size
  have hlt : k < w.heap.size := Nat.lt_of_lt_of_le (Nat.lt_of_not_le fun e => hk (.inl e)) hs
  rw [Below.heap_alloc _ _ _ hlt]; exact h.block k hk⟩
theorem Keep.setCell {b : Base} {w : World} (h : Keep b w) {p : Addr} (hp : b.Mine p.block) (u : Value) : Keep b (w.setCell p u) :=
 ⟨h.os, h.tape, h.output, by have := h.size; simpa [World.setCell] using this, fun k hk => by
  rw [Below.heap_setCell _ _ _ _ (fun e => hk (by rw [e]; exact hp))]; exact h.block k hk⟩
theorem Keep.below {b : Base} {w : World} (h : Keep b w) (hK : ∀ k, ¬ b.K k) : Below b.w.heap.size b.w w :=
 ⟨h.os, h.tape, h.output, h.size, fun k hk => h.block k fun e => by rcases e with e | e <;> first | omega | exact hK k e⟩
def entryV (e : MapEntry) : Value := .tuple #[e.key, e.val]
structure Maps (w0 : Base) (β : Pl) (a : AW) (w : World) : Prop where
 map : ∀ i b l, a.heap.get i = some b → b.kind = 2 → b.cells = mapMark :: l → ∃ bi es clock, β i = some bi ∧ w0.Mine bi.blk ∧ w.heap[bi.blk]? = some (.map es clock) ∧ VL β l (es.toList.map entryV)
 inj : ∀ i j b c l m bi bj, a.heap.get i = some b → b.kind = 2 → b.cells = mapMark :: l → a.heap.get j = some c → c.kind = 2 → c.cells = mapMark :: m → β i = some bi → β j = some bj → bi.blk = bj.blk → i = j
theorem Maps.keep {w0 : Base} {β β1 : Pl} {a a1 : AW} {w w1 : World} (h : Maps w0 β a w) (hle : Le β β1) (ha : ∀ i b l, a1.heap.get i = some b → b.kind = 2 → b.cells = mapMark :: l → a.heap.get i = some b)
 (hw : ∀ (k : Nat) (es : Array MapEntry) (c : Nat), w.heap[k]? = some (Obj.map es c) → w1.heap[k]? = some (Obj.map es c)) : Maps w0 β1 a1 w1 := by
 refine ⟨fun i b l hb hk hc => ?_, fun i j b c l m bi bj hb hk hc hb' hk' hc' hi hj he => ?_⟩
 · obtain ⟨bi, es, clock, q1, q2, q3, q4⟩ := h.map i b l (ha i b l hb hk hc) hk hc
   exact ⟨bi, es, clock, hle _ _ q1, q2, hw _ _ _ q3, q4.mono hle⟩
 · have k1 := ha i b l hb hk hc
   have k2 := ha j c m hb' hk' hc'
   obtain ⟨bi', _, _, q1, _⟩ := h.map i b l k1 hk hc
   obtain ⟨bj', _, _, r1, _⟩ := h.map j c m k2 hk' hc'
   have e1 := hle _ _ q1
   have e2 := hle _ _ r1
   rw [hi] at e1; injection e1 with e1; subst e1
   rw [hj] at e2; injection e2 with e2; subst e2
   exact h.inj i j b c l m bi bj k1 hk hc k2 hk' hc' q1 r1 he
theorem not_mark {β : Pl} {l l' : List Value} (h : VL β (mapMark :: l) l') : False := by
 cases l' with
 | nil => have := h.1; simp at this
 | cons v' l' =>
   have := h.head
   unfold mapMark at this
   cases this with
   | flat hf => exact absurd (show false = true from hf) (by decide)
structure EmbR (P : Program) (w0 : Base) (β : Pl) (a : AW) (w : World) : Prop where
 below : Keep w0 w
 blk : ∀ i b, a.heap.get i = some b → b.kind < 2 → ∃ bi cur fz, β i = some bi ∧ w0.Mine bi.blk ∧ bi.off = 0 ∧ w.heap[bi.blk]? = some (.cells cur b.elem fz) ∧ (fz.1 = fz.2 ∨ cur.size ≤ fz.1) ∧
  cur.size = b.cells.length + bi.ext * P.cellsOf b.elem ∧ (b.kind = 0 → bi.ext = 0 ∧ fz = (0, 0)) ∧ VL β b.cells (cur.toList.take b.cells.length)
 inj : ∀ i j b c bi bj, a.heap.get i = some b → b.kind < 2 → a.heap.get j = some c → c.kind < 2 → β i = some bi → β j = some bj → bi.blk = bj.blk → i = j
 imp : ∀ i b, a.heap.get i = some b → b.kind = 3 → ∃ bi, β i = some bi ∧ ¬ w0.Mine bi.blk ∧ ∀ (j : Nat) (v : Value), b.cells[j]? = some v → ∃ v', w0.w.cell? ⟨bi.blk, bi.off + j, none⟩ = some v' ∧ VR β v v'
 kinds : ∀ i b, a.heap.get i = some b → b.kind ≤ 3
 maps : Maps w0 β a w
structure Emb (P : Program) (w0 : Base) (β : Pl) (a : AW) (w : World) : Prop extends EmbR P w0 β a w where
 fresh : ∀ i, a.next ≤ i → a.heap.get i = none ∧ β i = none
theorem Emb.mk' {P : Program} {w0 : Base} {β : Pl} {a : AW} {w : World} (below : Keep w0 w) (fresh : ∀ i, a.next ≤ i → a.heap.get i = none ∧ β i = none)
 (blk : ∀ i b, a.heap.get i = some b → b.kind < 2 → ∃ bi cur fz, β i = some bi ∧ w0.Mine bi.blk ∧ bi.off = 0 ∧ w.heap[bi.blk]? = some (.cells cur b.elem fz) ∧ (fz.1 = fz.2 ∨ cur.size ≤ fz.1) ∧
  cur.size = b.cells.length + bi.ext * P.cellsOf b.elem ∧ (b.kind = 0 → bi.ext = 0 ∧ fz = (0, 0)) ∧ VL β b.cells (cur.toList.take b.cells.length))
 (inj : ∀ i j b c bi bj, a.heap.get i = some b → b.kind < 2 → a.heap.get j = some c → c.kind < 2 → β i = some bi → β j = some bj → bi.blk = bj.blk → i = j)
 (imp : ∀ i b, a.heap.get i = some b → b.kind = 3 → ∃ bi, β i = some bi ∧ ¬ w0.Mine bi.blk ∧ ∀ (j : Nat) (v : Value), b.cells[j]? = some v → ∃ v', w0.w.cell? ⟨bi.blk, bi.off + j, none⟩ = some v' ∧ VR β v v')
 (kinds : ∀ i b, a.heap.get i = some b → b.kind ≤ 3) (maps : Maps w0 β a w) : Emb P w0 β a w := ⟨⟨below, blk, inj, imp, kinds, maps⟩, fresh⟩
def SimAt {α α' : Type} (P : Program) (w0 : Base) (β : Pl) (s : Sem α) (s' : Sem α') (R : Pl → α → α' → Prop) : Prop :=
 ∀ a w x a1, Emb P w0 β a w → arun P s a = some (x, a1) → ∃ β1 x' w1, s'.run P w = .ok x' w1 ∧ Le β β1 ∧ Emb P w0 β1 a1 w1 ∧ R β1 x x'
theorem arun_bind {α γ : Type} (P : Program) (s : Sem α) (f : α → Sem γ) (a : AW) :
 arun P (s.bind f) a = match arun P s a with | some (x, a1) => arun P (f x) a1 | none => none := by
 induction s generalizing a with
 | pure x => rfl
 | load m p k ih =>
   simp only [Sem.bind, arun]
   cases a.cell p with
   | none => rfl
   | some v => exact ih v a
 | store m p v k ih =>
   cases v <;> simp only [Sem.bind, arun] <;> first | rfl | (cases a.setCell p _ <;> first | rfl | exact ih _)
 | new o k ih =>
   cases o <;> simp only [Sem.bind, arun] <;> try rfl
   rename_i c e fz
   split
   · cases a.new ⟨c.toList, e, 0⟩ <;> first | rfl | exact ih _ _
   · rfl
 | shape r k ih =>
   simp only [Sem.bind, arun]
   cases a.heap.get r with
   | none => rfl
   | some b => dsimp only; split <;> first | rfl | exact ih _ _
 | freeze p n k ih =>
   simp only [Sem.bind, arun]
   split
   · split <;> first | rfl | exact ih _
   · rfl
 | choose q k ih =>
   simp only [Sem.bind, arun]
   split <;> first | rfl | exact ih _ _
 | program k ih => simp only [Sem.bind, arun]; exact ih _ _
 | mark m k ih => simp only [Sem.bind, arun]; exact ih _
 | _ => rfl
theorem sim_pure {α α' : Type} {P : Program} {w0 : Base} {β : Pl} {x : α} {x' : α'} {R : Pl → α → α' → Prop} (h : R β x x') : SimAt P w0 β (Pure.pure x : Sem α) (Pure.pure x' : Sem α') R := by
 intro a w y a1 he hr
 simp only [Pure.pure, arun, Option.some.injEq, Prod.mk.injEq] at hr
 obtain ⟨rfl, rfl⟩ := hr
 exact ⟨β, x', w, rfl, Le.refl β, he, h⟩
theorem sim_bind {α α' γ γ' : Type} {P : Program} {w0 : Base} {β : Pl} {s : Sem α} {s' : Sem α'} {f : α → Sem γ} {f' : α' → Sem γ'} {R : Pl → α → α' → Prop} {R' : Pl → γ → γ' → Prop}
 (h : SimAt P w0 β s s' R) (hf : ∀ β1 x x', Le β β1 → R β1 x x' → SimAt P w0 β1 (f x) (f' x') R') : SimAt P w0 β (s >>= f) (s' >>= f') R' := by
 intro a w y a1 he hr
 have hb : arun P (s.bind f) a = some (y, a1) := hr
 rw [arun_bind] at hb
 cases hs : arun P s a with
 | none => rw [hs] at hb; cases hb
 | some q =>
   obtain ⟨x, a2⟩ := q
   rw [hs] at hb
   obtain ⟨β1, x', w1, h1, h2, h3, h4⟩ := h a w x a2 he hs
   obtain ⟨β2, y', w2, k1, k2, k3, k4⟩ := hf β1 x x' h2 h4 a2 w1 y a1 h3 hb
   refine ⟨β2, y', w2, ?_, h2.trans k2, k3, k4⟩
   rw [Sem.run_bind, h1]
   exact k1
theorem SimAt.mono {α α' : Type} {P : Program} {w0 : Base} {β : Pl} {s : Sem α} {s' : Sem α'} {R R' : Pl → α → α' → Prop} (h : SimAt P w0 β s s' R) (hr : ∀ β1 x x', Le β β1 → R β1 x x' → R' β1 x x') : SimAt P w0 β s s' R' := by
 intro a w x a1 he hs
 obtain ⟨β1, x', w1, h1, h2, h3, h4⟩ := h a w x a1 he hs
 exact ⟨β1, x', w1, h1, h2, h3, hr _ _ _ h2 h4⟩
theorem sim_none {α α' : Type} {P : Program} {w0 : Base} {β : Pl} {s : Sem α} {s' : Sem α'} {R : Pl → α → α' → Prop} (h : ∀ a, arun P s a = none) : SimAt P w0 β s s' R := by
 intro a w x a1 _ hr
 rw [h a] at hr; cases hr
theorem sim_fix {α : Type} {P : Program} {w0 : Base} {β : Pl} {s : Sem α} (x : α) (h1 : ∀ a, arun P s a = some (x, a)) (h2 : ∀ w, s.run P w = .ok x w) : SimAt P w0 β s s fun _ y y' => y = x ∧ y' = x := by
 intro a w y a1 he hr
 rw [h1 a] at hr
 simp only [Option.some.injEq, Prod.mk.injEq] at hr
 obtain ⟨rfl, rfl⟩ := hr
 exact ⟨β, x, w, h2 w, Le.refl β, he, rfl, rfl⟩
end Ev
end Go.Proofs.YtedmogacklbcmaaGreatDoor
