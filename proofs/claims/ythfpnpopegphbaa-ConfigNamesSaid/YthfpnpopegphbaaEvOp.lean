/- One operation of the evaluator answers as the model's does. -/
import Derived.Test.YthfpnpopegphbaaEvMap
namespace Go.Proofs.Ythfpnpopegphbaa
namespace Ev
open Go.RowKit

section
variable {P : Program} {w0 : Base} {β : Pl} {t : Tr Value} {ρ : Operand → Value} {o : Oper}

/-- What an operation comes to. -/
def OpRes (P : Program) (w0 : Base) (β : Pl) (a1 : AW) (r : Result Next) : AN → Prop
  | .value v => ∃ β1 w1 v', r = .ok (.value v') w1 ∧ Le β β1 ∧ Emb P w0 β1 a1 w1 ∧ VR β1 v v'
  | .skip => ∃ β1 w1, r = .ok .skip w1 ∧ Le β β1 ∧ Emb P w0 β1 a1 w1
  | .enter f args => ∃ β1 w1 args', r = .ok (.enter f args') w1 ∧ Le β β1 ∧ Emb P w0 β1 a1 w1 ∧ VL β1 args.toList args'.toList

theorem res_of_sim {a a1 : AW} {w : World} (he : Emb P w0 β a w) {s s' : Sem Value} (h : SimAt P w0 β s s' VR) {r : AN} (hr : (match arun P s a with | some (v, w') => some (AN.value v, w') | none => none) = some (r, a1)) :
    OpRes P w0 β a1 ((do pure (Next.value (← s')) : Sem Next).run P w) r := by
  cases hs : arun P s a with
  | none => rw [hs] at hr; cases hr
  | some q =>
    obtain ⟨v, a2⟩ := q
    rw [hs] at hr
    simp only [Option.some.injEq, Prod.mk.injEq] at hr
    obtain ⟨rfl, rfl⟩ := hr
    obtain ⟨β1, v', w1, k1, k2, k3, k4⟩ := h a w v a2 he hs
    refine ⟨β1, w1, v', ?_, k2, k3, k4⟩
    rw [Sem.run_bind, k1]; rfl

theorem VL.map {args : Array Operand} (h : ∀ x, x ∈ args → VR β (eval t x) (ρ x)) : VL β (args.map (eval t)).toList (args.map ρ).toList := by
  refine ⟨by simp, fun i v v' h1 h2 => ?_⟩
  simp only [Array.toList_map, List.getElem?_map, Option.map_eq_some_iff] at h1 h2
  obtain ⟨x, hx, rfl⟩ := h1
  obtain ⟨y, hy, rfl⟩ := h2
  rw [hx] at hy; injection hy with hy; subst hy
  exact h x (by rw [← Array.mem_toList_iff]; exact List.mem_of_getElem? hx)

theorem Emb.freeze {a : AW} {w : World} (he : Emb P w0 β a w) {i : Nat} {b : Blk} {bi : BI} (hb : a.heap.get i = some b) (hk1 : b.kind = 1) (hbi : β i = some bi) :
    ∃ n, (w.shape? bi.blk) = some (b.elem, n) ∧ Emb P w0 β a (w.freeze ⟨bi.blk, n, none⟩ 1) := by
  have hk : b.kind < 2 := by omega
  obtain ⟨bj, cur, fz, g1, g2, g3, g4, g5, g6, g7, g8⟩ := he.blk i b hb hk
  rw [hbi] at g1; injection g1 with g1; subst g1
  refine ⟨cur.size, by simp [World.shape?, g4], ?_⟩
  have hfr : ∃ fz', (w.freeze ⟨bi.blk, cur.size, none⟩ 1).heap[bi.blk]? = some (.cells cur b.elem fz') ∧ (fz'.1 = fz'.2 ∨ cur.size ≤ fz'.1) := by
    obtain ⟨lo, hi⟩ := fz
    simp only at g5
    by_cases hlh : lo = hi
    · refine ⟨(cur.size, cur.size + 1), ?_, .inr (Nat.le_refl _)⟩
      simp [World.freeze, Array.getElem?_modify, g4, hlh]
    · refine ⟨(min lo cur.size, max hi (cur.size + 1)), ?_, .inr ?_⟩
      · simp [World.freeze, Array.getElem?_modify, g4, hlh]
      · rcases g5 with g5 | g5
        · exact absurd g5 hlh
        · simp only; omega
  obtain ⟨fz', q1, q2⟩ := hfr
  have hother : ∀ k, k ≠ bi.blk → (w.freeze ⟨bi.blk, cur.size, none⟩ 1).heap[k]? = w.heap[k]? := by
    intro k hk
    simp [World.freeze, Array.getElem?_modify, Ne.symm hk]
  have hsize : (w.freeze ⟨bi.blk, cur.size, none⟩ 1).heap.size = w.heap.size := by simp [World.freeze]
  refine .mk' ⟨he.below.os, he.below.tape, he.below.output, by rw [hsize]; exact he.below.size, fun k hk => by rw [hother k (fun e => hk (by rw [e]; exact g2))]; exact he.below.block k hk⟩ he.fresh ?_ he.inj he.imp he.kinds (he.maps.keep (Le.refl β) (fun _ _ _ h _ _ => h) fun g es c hg => by rw [hother g (fun e => by subst e; rw [g4] at hg; cases hg)]; exact hg)
  intro j c hj hkc
  obtain ⟨bj, cur', fz2, r1, r2, r3, r4, r5, r6, r7, r8⟩ := he.blk j c hj hkc
  by_cases hblk : bj.blk = bi.blk
  · have hji := he.inj j i c b bj bi hj hkc hb hk r1 hbi hblk
    subst hji
    rw [hb] at hj; injection hj with hj; subst hj
    rw [hbi] at r1; injection r1 with r1; subst r1
    exact ⟨bi, cur, fz', hbi, g2, g3, q1, q2, g6, fun h => by omega, g8⟩
  · exact ⟨bj, cur', fz2, r1, r2, r3, by rw [hother _ hblk]; exact r4, r5, r6, r7, r8⟩

theorem bytesOf_ints : ∀ (l l' : List Value) (s b : ByteArray), VL β l l' → bytesOf l s = some b → ∃ ns : List Int, l' = ns.map (Value.int .u8) ∧ b = ns.foldl (fun r n => r.push (UInt8.ofNat n.toNat)) s := by
  intro l
  induction l with
  | nil =>
    intro l' s b hl h
    have : l' = [] := List.eq_nil_of_length_eq_zero (by simpa using hl.1.symm)
    subst this
    simp only [bytesOf, Option.some.injEq] at h
    exact ⟨[], rfl, by subst h; rfl⟩
  | cons v r ih =>
    intro l' s b hl h
    cases l' with
    | nil => have := hl.1; simp at this
    | cons v' r' =>
      unfold bytesOf at h
      split at h
      · rename_i h0; cases h0
      · rename_i n r0 h0
        injection h0 with h1 h2
        subst h1; subst h2
        obtain ⟨ns, k1, k2⟩ := ih r' _ b hl.tail h
        have := hl.head.int
        subst this
        exact ⟨n :: ns, by rw [k1]; rfl, by rw [k2]; rfl⟩
      · cases h

/-- A block that may have been marked. -/
theorem Emb.loosen {a a1 : AW} {w : World} (he : Emb P w0 β a w) {i : Nat} {b : Blk} (hb : a.heap.get i = some b) (hk : b.kind < 2) (h : a.upd i { b with kind := 1 } = some a1) :
    Emb P w0 β a1 w ∧ a1.heap.get i = some { b with kind := 1 } := by
  unfold AW.upd at h
  split at h
  · rename_i hp la hput hla
    injection h with h; subst h
    have hget := Tr.get_put hput
    have back : ∀ j c, hp.get j = some c → ∃ c0, a.heap.get j = some c0 ∧ c0.cells = c.cells ∧ c0.elem = c.elem ∧ (c.kind < 2 → c0.kind < 2) ∧ (c.kind = 0 → c0.kind = 0) ∧ (c.kind = 3 → c0.kind = 3 ∧ c0 = c) ∧ c.kind ≤ 3 := by
      intro j c hj
      rw [hget] at hj
      by_cases hji : j = i
      · rw [if_pos hji] at hj; injection hj with hj; subst hj; subst hji
        exact ⟨b, hb, rfl, rfl, fun _ => hk, fun h => by simp at h, fun h => by simp at h, by simp⟩
      · rw [if_neg hji] at hj
        exact ⟨c, hj, rfl, rfl, fun h => h, fun h => h, fun h => ⟨h, rfl⟩, he.kinds j c hj⟩
    refine ⟨.mk' he.below ?_ ?_ ?_ ?_ ?_ ?_, by rw [hget, if_pos rfl]⟩
    · intro j hj
      obtain ⟨g1, g2⟩ := he.fresh j hj
      refine ⟨?_, g2⟩
      rw [hget, if_neg]
      · exact g1
      · rintro rfl; rw [g1] at hb; cases hb
    · intro j c hj hkc
      obtain ⟨c0, q1, q2, q3, q4, q5, _⟩ := back j c hj
      obtain ⟨bj, cur, fz, r1, r2, r3, r4, r5, r6, r7, r8⟩ := he.blk j c0 q1 (q4 hkc)
      exact ⟨bj, cur, fz, r1, r2, r3, by rw [← q3]; exact r4, r5, by rw [← q2, ← q3]; exact r6, fun h => r7 (q5 h), by rw [← q2]; exact r8⟩
    · intro j k c d bj bk hj hkc hk' hkd hbj hbk hblk
      obtain ⟨c0, q1, _, _, q4, _⟩ := back j c hj
      obtain ⟨d0, s1, _, _, s4, _⟩ := back k d hk'
      exact he.inj j k c0 d0 bj bk q1 (q4 hkc) s1 (s4 hkd) hbj hbk hblk
    · intro j c hj hkc
      obtain ⟨c0, q1, _, _, _, _, q6, _⟩ := back j c hj
      obtain ⟨q7, rfl⟩ := q6 hkc
      exact he.imp j c0 q1 q7
    · intro j c hj
      obtain ⟨_, _, _, _, _, _, _, q8⟩ := back j c hj
      exact q8
    · refine he.maps.keep (Le.refl β) (fun j c l hj hk2 _ => ?_) fun _ _ _ h => h
      rw [hget] at hj
      split at hj
      · injection hj with hj; subst hj; simp at hk2
      · exact hj
  · cases h

theorem mark_run {W : World} {g n : Nat} {e : TypeId} (h : W.shape? g = some (e, n)) : (markStringish ⟨g, 0, none⟩).run P W = .ok () (W.freeze ⟨g, n, none⟩ 1) := by
  simp only [markStringish, Sem.run_bind, run_shape, Result.andThen_ok, h]
  rfl

theorem convert_sound {a a1 : AW} {w : World} (he : Emb P w0 β a w) {s d : TypeId} {x x' : Value} (hx : VR β x x') {r : AN} (hv : evConvert P a s d x = some (r, a1)) :
    OpRes P w0 β a1 ((do pure (Next.value (← convert s d x')) : Sem Next).run P w) r := by
  unfold evConvert at hv
  split at hv
  · rename_i e hu1 hu2
    have := hx.flat_eq (v := .slice none 0 0) rfl
    subst this
    split at hv
    · rename_i hu3
      simp only [Option.some.injEq, Prod.mk.injEq] at hv
      obtain ⟨rfl, rfl⟩ := hv
      refine ⟨β, w, .string .empty, ?_, Le.refl β, he, .flat rfl⟩
      rw [Sem.run_bind, run_convert_bytes_string w s d e none 0 0 hu1 hu3 hu2]
      rfl
    · cases hv
  · rename_i p n c e hu1 hu2
    obtain ⟨p', bi, rfl, hp, hbi⟩ := hx.sliceOf
    split at hv
    · rename_i q l hu3 hsrc
      split at hv
      · rename_i b hby
        simp only [Option.some.injEq, Prod.mk.injEq] at hv
        obtain ⟨rfl, rfl⟩ := hv
        obtain ⟨new', k1, k2, k3, k4⟩ := src_sound he.toEmbR hx hsrc
        obtain ⟨ns, m1, m2⟩ := bytesOf_ints _ _ _ _ k1 hby
        have hq : q = n := by
          have := k3 w
          simp only [Builtin.lenOf, Sem.run_pure] at this
          injection this with this; exact this.symm
        subst hq
        refine ⟨β, w, .string b, ?_, Le.refl β, he, .flat rfl⟩
        rw [Sem.run_bind, run_convert_bytes_string w s d e _ _ _ hu1 hu3 hu2]
        have hlc := k4 q (Nat.le_refl _) w rfl
        rw [List.take_of_length_le (by rw [← k1.1]; omega), m1] at hlc
        simp only [Builtin.firstCells, Nat.mul_one] at hlc
        rw [run_bytesToString w p' q (c + bi.ext) ns hlc, m2]
        rfl
      · cases hv
    · cases hv
  · rename_i p n c e e' hu1 hu2
    obtain ⟨p', bi, rfl, hp, hbi⟩ := hx.sliceOf
    split at hv
    · rename_i b hsd hu3 hb
      split at hv
      · rename_i hc
        split at hv
        case h_2 => cases hv
        rename_i a2 hup
        simp only [Option.some.injEq, Prod.mk.injEq] at hv
        obtain ⟨rfl, rfl⟩ := hv
        obtain ⟨he2, hb2⟩ := he.loosen hb hc.1 hup
        obtain ⟨m, k1, k2⟩ := he2.freeze hb2 rfl hbi
        obtain ⟨_, bk, hbk, rfl⟩ := hp
        rw [hbi] at hbk; injection hbk with hbk; subst hbk
        have hsd' : s = d := by simpa using hsd
        subst hsd'
        refine ⟨β, _, .slice (some ⟨bi.blk, bi.off + p.off, none⟩) n (c + bi.ext), ?_, Le.refl β, k2, hx⟩
        obtain ⟨_, rfl⟩ := hc
        simp [convert, run_underlying hu1, run_underlying hu3, markStringish, k1]
      · cases hv
    · cases hv
  · rename_i b e hu1 hu2
    have := hx.flat_eq (v := .string b) rfl
    subst this
    split at hv
    · rename_i hu3
      split at hv
      · rename_i a2 hn
        split at hv
        · rename_i hc
          simp only [Option.some.injEq, Prod.mk.injEq] at hv
          obtain ⟨rfl, rfl⟩ := hv
          have hcap : b.size ≤ grownCap w b.size 0 e := grownCap_ge w b.size 0 e
          have hcur : (b.data.map (fun b => Value.int .u8 b.toNat) ++ Array.replicate (grownCap w b.size 0 e - b.size) (Value.int .u8 0)).size = (b.data.toList.map fun b => Value.int .u8 b.toNat).length + (grownCap w b.size 0 e - b.size) * P.cellsOf e := by
            simp [hc.1]
          have htl : ((b.data.map (fun b => Value.int .u8 b.toNat) ++ Array.replicate (grownCap w b.size 0 e - b.size) (Value.int .u8 0)).toList.take (b.data.toList.map fun b => Value.int .u8 b.toNat).length) = (b.data.toList.map fun b => Value.int .u8 b.toNat) := by
            rw [Array.toList_append, Array.toList_map, List.take_left' rfl]
          obtain ⟨h1, h2⟩ := he.drew.new (k := 1) (fz := (0, 0)) (ext := grownCap w b.size 0 e - b.size) (by omega) (.inl rfl) hcur (fun h => by cases h) (by
            rw [htl]
            exact .of_flat fun v hv => by simp only [List.mem_map] at hv; obtain ⟨b, _, rfl⟩ := hv; rfl) hn
          have hg : grow β a.next ⟨w.drew.heap.size, 0, grownCap w b.size 0 e - b.size⟩ a.next = some ⟨w.heap.size, 0, grownCap w b.size 0 e - b.size⟩ := by unfold grow; rw [if_pos rfl]; rfl
          obtain ⟨hp, la, cl, hput, rfl⟩ := AW.new_some hn
          obtain ⟨n, m1, m2⟩ := h2.freeze (i := a.next) (b := ⟨_, e, 1⟩) (by rw [Tr.get_put hput, if_pos rfl]) (by simp) hg
          refine ⟨_, _, .slice (some ⟨w.heap.size, 0, none⟩) b.size (grownCap w b.size 0 e), ?_, h1, m2, ?_⟩
          · have hch : (choose (.appendCap b.size 0 e)).run P w = .ok (grownCap w b.size 0 e) w.drew := by
              rw [run_choose]; rfl
            have hmk := mark_run (P := P) m1
            have hcv : (convert s d (.string b)).run P w = (Conv.stringToBytes e b).run P w := by
              simp [convert, run_underlying hu1, run_underlying hu2, run_underlying hu3]
            rw [Sem.run_bind, hcv]
            simp only [Conv.stringToBytes, Sem.run_bind, hch, Result.andThen_ok, newRow, run_newObj, Sem.run_pure]
            have hsz : w.drew.heap.size = w.heap.size := rfl
            rw [hsz]
            simp only at hmk
            rw [hmk]
            rfl
          · have := VR.slice (β := grow β a.next ⟨w.drew.heap.size, 0, grownCap w b.size 0 e - b.size⟩) (a := ⟨a.next, 0, none⟩) (a' := ⟨w.heap.size, 0, none⟩) (n := b.size) (c := b.size) (bi := ⟨w.heap.size, 0, grownCap w b.size 0 e - b.size⟩) ⟨rfl, _, hg, by simp⟩ hg
            simp only at this
            rw [show b.size + (grownCap w b.size 0 e - b.size) = grownCap w b.size 0 e by omega] at this
            exact this
        · cases hv
      · cases hv
    · cases hv
  · cases hv

theorem arr_two {args : Array Operand} {x y : Operand} (h : args.toList = [x, y]) : args = #[x, y] := by rw [← Array.toArray_toList (xs := args), h]
theorem arr_two' {args : Array TypeId} {x y : TypeId} (h : args.toList = [x, y]) : args = #[x, y] := by rw [← Array.toArray_toList (xs := args), h]

theorem elemOf_spec {ty e : TypeId} (h : elemOf P ty = some e) : P.underlying ty = some (.slice e) := by
  unfold elemOf at h
  split at h
  · rename_i e' hu; injection h with h; subst h; exact hu
  · cases h

theorem Parts.mapLe {ps : Array (Nat × Operand)} (h : ∀ x, x ∈ ps.toList.map (·.2) → VR β (eval t x) (ρ x)) (β1 : Pl) (hle : Le β β1) :
    Parts β1 ((ps.map fun (i, x) => (i, eval t x)).toList) ((ps.map fun (i, x) => (i, ρ x)).toList) :=
  Parts.map fun x hx => (h x hx).mono hle

theorem mem_sound {a a1 : AW} {w : World} (he : Emb P w0 β a w) (h : Ops β t ρ o.op) {r : AN} (hv : evMem P t o a = some (r, a1)) :
    OpRes P w0 β a1 ((execOp ρ o).run P w) r := by
  obtain ⟨dst, op, type, pos, after, guard⟩ := o
  simp only at h
  unfold evMem at hv
  simp only at hv
  split at hv
  · -- alloc
    rename_i e
    split at hv
    · rename_i hz; exact res_of_sim he (sim_alloc hz) hv
    · cases hv
  · -- box
    rename_i e x
    exact res_of_sim he (sim_box (h x (by simp [Op.operands]))) hv
  · -- build
    rename_i ty ps
    split at hv
    · rename_i hz
      refine res_of_sim he (sim_build hz (Parts.map fun x hx => h x ?_)) hv
      simpa [Op.operands] using hx
    · cases hv
  · -- buildSlice
    rename_i ty n ps
    split at hv
    · rename_i e hel
      split at hv
      · rename_i hz
        refine res_of_sim he (sim_buildSlice (elemOf_spec hel) hz n (Parts.mapLe fun x hx => h x ?_)) hv
        simpa [Op.operands] using hx
      · cases hv
    · cases hv
  · -- makeSlice
    rename_i ty l c
    split at hv
    · rename_i e hel
      split at hv
      · rename_i hz
        simp only [Bool.and_eq_true] at hz
        obtain ⟨⟨hz, hl⟩, hc⟩ := hz
        have e1 := (h l (by simp [Op.operands])).flat_eq hl
        have e2 := (h c (by simp [Op.operands])).flat_eq hc
        simp only [execOp, e1, e2]
        exact res_of_sim he (sim_makeSlice (elemOf_spec hel) hz _ _) hv
      · cases hv
    · cases hv
  · -- store
    rename_i ty x y
    split at hv
    · rename_i p hp
      have hx := h x (by simp [Op.operands])
      rw [hp] at hx
      obtain ⟨p', h1, h2⟩ := hx.pointer
      split at hv
      · rename_i u a2 hs
        simp only [Option.some.injEq, Prod.mk.injEq] at hv
        obtain ⟨rfl, rfl⟩ := hv
        obtain ⟨β1, x', w1, k1, k2, k3, _⟩ := sim_storeVar ty h2 (h y (by simp [Op.operands])) a w u a2 he hs
        refine ⟨β1, w1, ?_, k2, k3⟩
        simp only [execOp, Instr.storeAt, h1, Instr.sureAddr, pure_bind, Sem.run_bind, k1, Result.andThen_ok, Sem.run_pure]
      · cases hv
    · cases hv
  · -- slice
    rename_i ty x lo hi
    cases hsl : evSlice P a ty (eval t x) (lo.map (eval t)) (hi.map (eval t)) with
    | none => rw [hsl] at hv; cases hv
    | some v =>
      rw [hsl] at hv
      simp only [Option.map_some, Option.some.injEq, Prod.mk.injEq] at hv
      obtain ⟨rfl, rfl⟩ := hv
      obtain ⟨v', k1, k2⟩ := slice_sound he.toEmbR (lo' := lo.map ρ) (hi' := hi.map ρ) (h x (by simp [Op.operands])) (by
          intro y hy
          cases lo with
          | none => cases hy
          | some z => simp only [Option.map_some, Option.some.injEq] at hy; subst hy; exact ⟨_, rfl, h z (by simp [Op.operands])⟩) (by cases lo <;> simp) (by
          intro y hy
          cases hi with
          | none => cases hy
          | some z => simp only [Option.map_some, Option.some.injEq] at hy; subst hy; exact ⟨_, rfl, h z (by cases lo <;> simp [Op.operands])⟩) (by cases hi <;> simp) hsl
      refine ⟨β, w, v', ?_, Le.refl β, he, k2⟩
      simp only [execOp, Option.map_none, Sem.run_bind, k1, Result.andThen_ok, Sem.run_pure]
  · -- convert
    rename_i s d x
    exact convert_sound he (h x (by simp [Op.operands])) hv
  · -- makeMap
    rename_i ty r
    split at hv
    case isFalse => cases hv
    rename_i hh
    split at hv
    case h_2 => cases hv
    rename_i a2 hn
    simp only [Option.some.injEq, Prod.mk.injEq] at hv
    obtain ⟨rfl, rfl⟩ := hv
    obtain ⟨k1, k2, k3⟩ := he.newMap hn
    refine ⟨_, _, .map (some w.heap.size), ?_, k1, k2, k3⟩
    simp only [execOp]
    rw [Sem.run_bind, makeMap_run h hh]
    rfl
  · -- mapUpdate
    rename_i ty m k x
    split at hv
    case h_2 => cases hv
    rename_i a2 hp
    simp only [Option.some.injEq, Prod.mk.injEq] at hv
    obtain ⟨rfl, rfl⟩ := hv
    obtain ⟨w1, k1, k2⟩ := mapPut_sound he (h m (by simp [Op.operands])) (h k (by simp [Op.operands])) (h x (by simp [Op.operands])) hp
    refine ⟨β, w1, ?_, Le.refl β, k2⟩
    simp only [execOp, Sem.run_bind, k1, Result.andThen_ok, Sem.run_pure]
  · -- insert
    rename_i ty m k x
    split at hv
    case h_2 => cases hv
    rename_i a2 hp
    simp only [Option.some.injEq, Prod.mk.injEq] at hv
    obtain ⟨rfl, rfl⟩ := hv
    obtain ⟨w1, k1, k2⟩ := mapPut_sound he (h m (by simp [Op.operands])) (h k (by simp [Op.operands])) (h x (by simp [Op.operands])) hp
    refine ⟨β, w1, ?_, Le.refl β, k2⟩
    simp only [execOp, Sem.run_bind, k1, Result.andThen_ok, Sem.run_pure]
  · -- call
    rename_i c
    obtain ⟨callee, args, argTypes⟩ := c
    simp only at hv
    split at hv
    · rename_i f
      split at hv
      case h_2 => cases hv
      rename_i g first caps hfv
      split at hv
      · rename_i hb
        simp only [Option.some.injEq, Prod.mk.injEq] at hv
        obtain ⟨rfl, rfl⟩ := hv
        have hf := h f (by simp [Op.operands, Call.operands])
        rw [hfv] at hf
        obtain ⟨first', caps', hf, hl1, hl2⟩ := hf.funcOf
        unfold hasBody at hb
        split at hb
        · rename_i fn hfn
          simp only [Bool.and_eq_true, bne_iff_ne, ne_eq] at hb
          refine ⟨β, w, first' ++ args.map ρ ++ caps', ?_, Le.refl β, he, by
            simp only [Array.toList_append]
            exact (hl1.append (VL.map fun x hx => h x (by simp [Op.operands, Call.operands, hx]))).append hl2⟩
          have hbody : ¬ fn.body = none := by
            intro hbo; rw [hbo] at hb; simp at hb
          have hname : ¬ fn.name = "runtime.NumGoroutine" := hb.1
          simp [execOp, resolve, hf, Deferred.ofValue, invoke, callFunc, hfn, hname, hbody]
        · cases hb
      · cases hv
    · rename_i s ty hargs htys
      split at hv
      case h_2 => cases hv
      rename_i a2 hcl
      simp only [Option.some.injEq, Prod.mk.injEq] at hv
      obtain ⟨rfl, rfl⟩ := hv
      have e1 : args = #[s] := by rw [← Array.toArray_toList (xs := args), hargs]
      have e2 : argTypes = #[ty] := by rw [← Array.toArray_toList (xs := argTypes), htys]
      subst e1; subst e2
      obtain ⟨w1, k1, k2⟩ := clear_sound (ty' := type) he (h s (by simp [Op.operands, Call.operands])) hcl
      refine ⟨β, w1, .tuple #[], ?_, Le.refl β, k2, .flat rfl⟩
      simp [execOp, resolve, invoke, builtin, k1]
    · rename_i s x ty1 ty2 hargs htys
      have e1 := arr_two hargs
      have e2 := arr_two' htys
      subst e1; subst e2
      cases ha : evAppend P a ty1 ty2 (eval t s) (eval t x) with
      | none => rw [ha] at hv; cases hv
      | some q =>
        obtain ⟨v, a2⟩ := q
        rw [ha] at hv
        simp only [Option.some.injEq, Prod.mk.injEq] at hv
        obtain ⟨rfl, rfl⟩ := hv
        obtain ⟨β1, v', w1, k1, k2, k3, k4⟩ := append_sound (ty := type) he (h s (by simp [Op.operands, Call.operands])) (h x (by simp [Op.operands, Call.operands])) ha
        refine ⟨β1, w1, v', ?_, k2, k3, k4⟩
        simp [execOp, resolve, invoke, builtin, k1]
    · rename_i s x ty1 ty2 hargs htys
      have e1 := arr_two hargs
      have e2 := arr_two' htys
      subst e1; subst e2
      cases ha : evCopy P a ty1 (eval t s) (eval t x) with
      | none => rw [ha] at hv; cases hv
      | some q =>
        obtain ⟨v, a2⟩ := q
        rw [ha] at hv
        simp only [Option.some.injEq, Prod.mk.injEq] at hv
        obtain ⟨rfl, rfl⟩ := hv
        obtain ⟨v', w1, k1, k2, k3⟩ := copy_sound (ty2 := ty2) (ty := type) he (h s (by simp [Op.operands, Call.operands])) (h x (by simp [Op.operands, Call.operands])) ha
        refine ⟨β, w1, v', ?_, Le.refl β, k2, k3⟩
        simp [execOp, resolve, invoke, builtin, k1]
    · cases hv
  · cases hv

/-- The operands that may be known. -/
theorem ops_of {act : Act} (ht : ∀ x, x ∈ o.op.operands → ∀ k, x = .tmp k → VR β (eval t x) (act.eval x)) (hok : (o.op.operands.toList.all okOpnd) = true) : Ops β t act.eval o.op := by
  intro x hx
  simp only [List.all_eq_true] at hok
  have hk := hok x (by simpa using hx)
  cases x with
  | tmp k => exact ht _ hx k rfl
  | const v => exact .flat hk
  | global g => cases hk
  | func f => exact .func (.func f) rfl (by simp) rfl (by simp)

theorem float_sound {a : AW} {w : World} (he : EmbR P w0 β a w) (h : Ops β t ρ o.op) {v : Value} (hv : evFloat P t o a = some v) :
    ∃ v', (execOp ρ o).run P w = .ok (.value v') w ∧ VR β v v' := by
  unfold evFloat at hv
  split at hv
  · exact load_sound he h hv
  · obtain ⟨v', k1, k2⟩ := pure_sound h hv
    exact ⟨v', k1 w, k2⟩

theorem op_sound {a a1 : AW} {w : World} {act : Act} (he : Emb P w0 β a w) (ht : ∀ x, x ∈ o.op.operands → ∀ k, x = .tmp k → VR β (eval t x) (act.eval x)) {r : AN} (hv : evOp P t o a = some (r, a1)) :
    OpRes P w0 β a1 ((execOp act.eval o).run P w) r := by
  unfold evOp at hv
  split at hv
  · rename_i hok
    have h := ops_of ht hok
    split at hv
    · split at hv
      · rename_i v hf
        simp only [Option.some.injEq, Prod.mk.injEq] at hv
        obtain ⟨rfl, rfl⟩ := hv
        obtain ⟨v', k1, k2⟩ := float_sound he.toEmbR h hf
        exact ⟨β, w, v', k1, Le.refl β, he, k2⟩
      · cases hv
    · exact mem_sound he h hv
  · cases hv
end
end Ev
end Go.Proofs.Ythfpnpopegphbaa
