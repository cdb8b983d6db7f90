/- Texts that the proofs share: HkLists, HkPadded, HkSum. -/
import Derived.Test.YtedmogacklbcmaaGreatDoorS20
import Derived.Test.YtedmogacklbcmaaGreatDoorS39
namespace Go.Proofs.YtedmogacklbcmaaGreatDoor
open Go.RowKit
def Vals (w : World) (v : Value) (vs : List Value) : Prop :=
 ∃ A c, v = .slice A vs.length c ∧ vs.length ≤ c ∧ (vs ≠ [] → ∃ b off, A = some ⟨b, off, none⟩ ∧ ∀ (i : Nat) (u : Value), vs[i]? = some u → w.cell? ⟨b, off + i, none⟩ = some u)
def Reads (w : World) (B : Nat) (vs : List Value) (ls : List (List UInt8)) : Prop := vs.length = ls.length ∧ ∀ (i : Nat) (l : List UInt8), ls[i]? = some l → ∃ u, vs[i]? = some u ∧ Bs w B u l
theorem Reads.below {w w' : World} {B : Nat} {vs : List Value} {ls : List (List UInt8)} (h : Reads w B vs ls) (hb : Below B w w') : Reads w' B vs ls :=
 ⟨h.1, fun i l hl => by obtain ⟨u, h1, h2⟩ := h.2 i l hl; exact ⟨u, h1, h2.below hb⟩⟩
theorem Reads.more {w : World} {B B' : Nat} {vs : List Value} {ls : List (List UInt8)} (h : Reads w B vs ls) (hb : B ≤ B') : Reads w B' vs ls :=
 ⟨h.1, fun i l hl => by obtain ⟨u, h1, h2⟩ := h.2 i l hl; exact ⟨u, h1, h2.more hb⟩⟩
theorem Reads.keep {w W : World} {g : Nat} {vs : List Value} {ls : List (List UInt8)} (h : Reads w g vs ls) (hk : Ev.Keep ⟨w, fun k => k = g⟩ W) (hg : g < w.heap.size) : Reads W g vs ls :=
 ⟨h.1, fun i l hl => by obtain ⟨u, h1, h2⟩ := h.2 i l hl; exact ⟨u, h1, keep_bs h2 hk hg⟩⟩
theorem Reads.one {w : World} {B : Nat} {u : Value} {l : List UInt8} (h : Bs w B u l) : Reads w B [u] [l] := ⟨rfl, fun i m hm => by
 cases i with
 | zero => simp at hm; subst hm; exact ⟨u, rfl, h⟩
 | succ i => simp at hm⟩
theorem Reads.append {w : World} {B : Nat} {vs us : List Value} {ls ms : List (List UInt8)} (h : Reads w B vs ls) (k : Reads w B us ms) : Reads w B (vs ++ us) (ls ++ ms) := by
 refine ⟨by rw [List.length_append, List.length_append, h.1, k.1], fun i l hl => ?_⟩
 rw [List.getElem?_append] at hl ⊢
 rw [h.1]
 split at hl
 · rename_i hi; rw [if_pos hi]; exact h.2 i l hl
 · rename_i hi; rw [if_neg hi]; exact k.2 _ l hl
theorem Reads.one_cell {w : World} {B : Nat} {vs : List Value} {ls : List (List UInt8)} (h : Reads w B vs ls) : ∀ u ∈ vs, u.oneCell' = true := by
 intro u hu
 obtain ⟨i, hi⟩ := List.getElem?_of_mem hu
 have hlt : i < ls.length := by rw [← h.1]; exact (List.getElem?_eq_some_iff.1 hi).1
 obtain ⟨u', h1, A, c, rfl, _⟩ := h.2 i _ (List.getElem?_eq_getElem hlt)
 rw [hi] at h1
 injection h1 with h1
 subst h1
 rfl
theorem bss_vals {w : World} {B : Nat} {v : Value} {ls : List (List UInt8)} (h : Bss w B v ls) : ∃ vs, Vals w v vs ∧ Reads w B vs ls := by
 obtain ⟨A, c, rfl, hc, hcs⟩ := h
 by_cases hne : ls = []
 · subst hne
   exact ⟨[], ⟨A, c, rfl, Nat.zero_le _, fun h => absurd rfl h⟩, rfl, fun i l hl => by simp at hl⟩
 · obtain ⟨b, off, rfl, _, hcell⟩ := hcs hne
   have hex : ∀ k, k ≤ ls.length → ∃ vs : List Value, vs.length = k ∧ ∀ (i : Nat) (l : List UInt8), i < k → ls[i]? = some l → ∃ u, vs[i]? = some u ∧ w.cell? ⟨b, off + i, none⟩ = some u ∧ Bs w B u l := by
    intro k
    induction k with
    | zero => exact fun _ => ⟨[], rfl, fun i l h => absurd h (by omega)⟩
    | succ k ih =>
      intro hk
      obtain ⟨vs, h1, h2⟩ := ih (by omega)
      obtain ⟨u, h3, h4⟩ := hcell k _ (List.getElem?_eq_getElem (by omega))
      refine ⟨vs ++ [u], by simp [h1], fun i l hi hl => ?_⟩
      by_cases hik : i < k
      · obtain ⟨u', h5, h6⟩ := h2 i l hik hl
        exact ⟨u', by rw [List.getElem?_append_left (by omega)]; exact h5, h6⟩
      · have : i = k := by omega
        subst this
        rw [List.getElem?_eq_getElem (by omega)] at hl
        injection hl with hl
        subst hl
        exact ⟨u, by rw [List.getElem?_append_right (by omega), h1, Nat.sub_self]; rfl, h3, h4⟩
   obtain ⟨vs, h1, h2⟩ := hex _ (Nat.le_refl _)
   refine ⟨vs, ⟨some ⟨b, off, none⟩, c, by rw [h1], by omega, fun _ => ⟨b, off, rfl, fun i u hu => ?_⟩⟩, h1, fun i l hl => ?_⟩
   · have hi : i < ls.length := by rw [← h1]; exact (List.getElem?_eq_some_iff.1 hu).1
     obtain ⟨u', h3, h4, _⟩ := h2 i _ hi (List.getElem?_eq_getElem hi)
     rw [hu] at h3
     injection h3 with h3
     rw [h3]
     exact h4
   · obtain ⟨u, h3, _, h5⟩ := h2 i l (List.getElem?_eq_some_iff.1 hl).1 hl
     exact ⟨u, h3, h5⟩
theorem Bss.more' {w : World} {B B' : Nat} {v : Value} {ls : List (List UInt8)} (h : Bss w B v ls) (hB : B ≤ B') : Bss w B' v ls := by
 obtain ⟨A, c, h1, h2, h3⟩ := h
 refine ⟨A, c, h1, h2, fun hne => ?_⟩
 obtain ⟨b, off, e, hlt, h4⟩ := h3 hne
 refine ⟨b, off, e, by omega, fun i l hl => ?_⟩
 obtain ⟨u, h5, h6⟩ := h4 i l hl
 exact ⟨u, h5, h6.more hB⟩
theorem Vals.grown {w w' : World} {v : Value} {vs : List Value} {B : Nat} (h : Vals w v vs) (hB : ∀ b off c, v = .slice (some ⟨b, off, none⟩) vs.length c → vs ≠ [] → b < B) (hb : Below B w w') : Vals w' v vs := by
 obtain ⟨A, c, rfl, h1, h2⟩ := h
 refine ⟨A, c, rfl, h1, fun hne => ?_⟩
 obtain ⟨b, off, rfl, h3⟩ := h2 hne
 exact ⟨b, off, rfl, fun i u hu => (hb.cell (p := ⟨b, off + i, none⟩) (hB b off c rfl hne)).trans (h3 i u hu)⟩
set_option maxRecDepth 100000 in
theorem info_bs : ∃ i, Tryz.prog.info? 38 = some i ∧ i.zero = some (.slice none 0 0) ∧ i.size = 1 ∧ i.bytes = 24 :=
 ⟨_, rfl, by kernel_rfl, by kernel_rfl, by kernel_rfl⟩
theorem run_app_room (w : World) (ty : TypeId) {g n cap : Nat} {cur vs : List Value} {y : Value} (hrow : Row w g cur 38) (hcap : cur.length = cap) (hy : Vals w y vs) (h1 : ∀ u ∈ vs, u.oneCell' = true) (hroom : n + vs.length ≤ cap) :
 ∃ w', (Builtin.append_ #[82, 82] ty #[.slice (some ⟨g, 0, none⟩) n cap, y]).run Tryz.prog w = .ok (.slice (some ⟨g, 0, none⟩) (n + vs.length) cap) w' ∧ Row w' g (cur.take n ++ vs ++ cur.drop (n + vs.length)) 38 ∧ Ev.Keep ⟨w, fun k => k = g⟩ w' := by
 obtain ⟨i, hi, hz, hs, hb⟩ := info_bs
 obtain ⟨A, c, rfl, hc, hcell⟩ := hy
 by_cases hne : vs = []
 · subst hne
   have hrun := Ev.run_append_fit (P := Tryz.prog) (ty := ty) (base := some ⟨g, 0, none⟩) (m := n) (n := 0) (c := cap) (x := .slice A 0 c) (w := w) (new := #[]) Tryz.underlying82 Tryz.underlying82 (.inr ⟨_, rfl⟩) hi rfl (by cases A <;> simp [Builtin.firstCells, loadCells, loadCellsFrom]) (by simpa using hroom)
   refine ⟨w, ?_, ?_, ⟨rfl, rfl, rfl, Nat.le_refl _, fun _ _ => rfl⟩⟩
   · rw [List.length_nil, hrun]
     simp [storeCells]
   · rw [List.length_nil, Nat.add_zero, List.append_nil, List.take_append_drop]
     exact hrow
 · obtain ⟨b, off, rfl, h2⟩ := hcell hne
   have hrun := run_append_room (P := Tryz.prog) w 82 ty 38 i Tryz.underlying82 hi g n cap cur.toArray hrow ⟨b, off, none⟩ vs.length c vs (by rw [hs, Nat.mul_one])
    (fun j u hj => by rw [show (⟨b, off, none⟩ : Addr).add j = ⟨b, off + j, none⟩ by unfold Addr.add; split <;> simp_all]; exact h2 j u hj) h1 hroom (by rw [hs, Nat.mul_one]; simpa [hcap] using hroom)
   refine ⟨_, hrun, ?_, ⟨rfl, rfl, rfl, by simp [World.setRow], fun k hk => setRow_other w g k _ fun e => hk (.inr e)⟩⟩
   rw [hs, Nat.mul_one]
   have := hrow.setRow (cur.take n ++ vs ++ cur.drop (n + vs.length))
   exact this
theorem wpList_app_room (w : World) {ops : Array Oper} {rest : List Oper} {o : Oper} {a : Act} {Q : Exit → Act → World → Prop} (hgd : o.guard = none) (s x : Operand)
 (ho : o.op = .call { callee := .builtin .append, args := #[s, x], argTypes := #[82, 82] }) {g n cap : Nat} {cur vs : List Value} {y : Value} (hs : a.eval s = .slice (some ⟨g, 0, none⟩) n cap) (hx : a.eval x = y)
 (hrow : Row w g cur 38) (hcap : cur.length = cap) (hy : Vals w y vs) (h1 : ∀ u ∈ vs, u.oneCell' = true) (hroom : n + vs.length ≤ cap)
 (h : ∀ w', Row w' g (cur.take n ++ vs ++ cur.drop (n + vs.length)) 38 → Ev.Keep ⟨w, fun k => k = g⟩ w' → wpList Tryz.prog ops Q rest (a.put o.dst (.slice (some ⟨g, 0, none⟩) (n + vs.length) cap)) w') : wpList Tryz.prog ops Q (o :: rest) a w := by
 refine wpList_plain hgd fun K hK => ?_
 obtain ⟨w', hr, h2, h3⟩ := run_app_room w o.type hrow hcap hy h1 hroom
 unfold Oper.wp execOp
 simp only [ho, resolve, invoke, builtin, Sem.run_bind, Sem.run_pure, Result.andThen_ok, List.map_toArray, List.map_cons, List.map_nil, hs, hx, hr]
 exact hK _ _ (h w' h2 h3)
theorem wpList_make_lists (w : World) {ops : Array Oper} {rest : List Oper} {o : Oper} {a : Act} {Q : Exit → Act → World → Prop}
 (hg : o.guard = none) (l c : Operand) (hop : o.op = Op.makeSlice 82 l c) (n : Nat) (hl : a.eval l = .int .i64 0) (hc : a.eval c = .int .i64 (n : Int)) (hn : n ≤ 1000000000)
 (hK : ∀ w' cur, Row w' w.heap.size cur 38 → cur.length = n → w.grownBy w' none → wpList Tryz.prog ops Q rest (a.put o.dst (.slice (some ⟨w.heap.size, 0, none⟩) 0 n)) w') :
 wpList Tryz.prog ops Q (o :: rest) a w := by
 obtain ⟨i, hi, hz, hs, hb⟩ := info_bs
 refine wpList_make_own w hg l c 82 hop w.heap.size 38 i (.slice none 0 0) 1 Tryz.underlying82 hi hz hs .i64 .i64 _ n hl hc rfl (by rw [hb]; omega) (by unfold maxLen; omega) (Nat.le_refl _) fun w' h1 h2 => ?_
 rcases h1.2 with ⟨h0, _⟩ | ⟨g, cap, cur, e, _, hgg, _, _, hcs, _⟩
 · simp at h0
 · simp only [Value.slice.injEq, Option.some.injEq, Addr.mk.injEq, and_true, true_and] at e
   obtain ⟨rfl, rfl⟩ := e
   exact hK w' cur.toList (by unfold Row; simpa using hgg) (by simpa using hcs) h2
def OwnVs (w : World) (base : Nat) (v : Value) (vs : List Value) : Prop := w.ownsRow base 38 1 v vs.length vs
theorem ownVs_new (w : World) (v : Value) : OwnVs (w.alloc (.cells #[v] 38)) w.heap.size (.slice (some ⟨w.heap.size, 0, none⟩) 1 1) [v] :=
 ⟨rfl, .inr ⟨w.heap.size, 1, #[v], rfl, Nat.le_refl _, heap_alloc_new w _, Nat.le_refl _, by decide, rfl, by simp⟩⟩
theorem bss_own {w : World} {base : Nat} {v : Value} {vs : List Value} {ls : List (List UInt8)} (h : OwnVs w base v vs) (hr : Reads w w.heap.size vs ls) : Bss w w.heap.size v ls := by
 rcases h.2 with ⟨rfl, hl⟩ | ⟨g, cap, cur, rfl, _, hg, hnc, _⟩
 · have : ls = [] := List.eq_nil_of_length_eq_zero (by rw [← hr.1]; exact hl)
   subst this
   exact ⟨none, 0, rfl, Nat.zero_le _, fun h => absurd rfl h⟩
 · refine ⟨_, cap, by rw [hr.1], by rw [← hr.1]; exact hnc, fun _ => ⟨g, 0, rfl, (Array.getElem?_eq_some_iff.1 hg).1, fun i l hl => ?_⟩⟩
   obtain ⟨u, h1, h2⟩ := hr.2 i l hl
   have := h.cells (g := g) rfl i u h1
   rw [show (⟨g, 0, none⟩ : Addr).add i = ⟨g, 0 + i, none⟩ by unfold Addr.add; split <;> simp_all] at this
   exact ⟨u, this, h2⟩
theorem run_app_lists (w : World) (ty : TypeId) {base : Nat} {v y : Value} {vs us : List Value} (hown : OwnVs w base v vs) (hy : Vals w y us) (h1 : ∀ u ∈ us, u.oneCell' = true) (hlen : vs.length + us.length ≤ 1000000) (hbase : base ≤ w.heap.size) :
 ∃ v' w', (Builtin.append_ #[82, 82] ty #[v, y]).run Tryz.prog w = .ok v' w' ∧ OwnVs w' base v' (vs ++ us) ∧ w.grownBy w' v.ownBlock := by
 obtain ⟨i, hi, hz, hs, hb⟩ := info_bs
 obtain ⟨A, c, rfl, hc, hcell⟩ := hy
 by_cases hne : us = []
 · subst hne
   refine ⟨v, w, ?_, by simpa using hown, ⟨rfl, rfl, rfl, Nat.le_refl _, fun _ _ _ => rfl⟩⟩
   have hf : ∀ (cap : Nat) (base' : Option Addr), vs.length ≤ cap → v = .slice base' vs.length cap → (Builtin.append_ #[82, 82] ty #[v, .slice A 0 c]).run Tryz.prog w = .ok v w := by
    intro cap base' hcap hv
    subst hv
    have hrun := Ev.run_append_fit (P := Tryz.prog) (ty := ty) (base := base') (m := vs.length) (n := 0) (c := cap) (x := .slice A 0 c) (w := w) (new := #[]) Tryz.underlying82 Tryz.underlying82 (.inr ⟨_, rfl⟩) hi rfl (by cases A <;> simp [Builtin.firstCells, loadCells, loadCellsFrom]) (by omega)
    rw [hrun]
    cases base' <;> simp [storeCells]
   rcases hown.2 with ⟨rfl, hl⟩ | ⟨g, cap, cur, rfl, _, _, hnc, _⟩
   · exact hf 0 none (by omega) (by rw [hl])
   · exact hf cap _ hnc rfl
 · obtain ⟨b, off, rfl, h2⟩ := hcell hne
   obtain ⟨v', w', k1, k2, k3, _, _⟩ := run_append_own_at (P := Tryz.prog) w base 82 ty 38 i (.slice none 0 0) 1 24 Tryz.underlying82 hi hz hs hb rfl (by decide) v vs.length vs hown ⟨b, off, none⟩ us.length c us (by simp)
    (fun j u hj => by rw [show (⟨b, off, none⟩ : Addr).add j = ⟨b, off + j, none⟩ by unfold Addr.add; split <;> simp_all]; exact h2 j u hj) h1 (by unfold maxLen; omega) (by omega) hbase
   refine ⟨v', w', k1, ?_, k3⟩
   unfold OwnVs
   rw [List.length_append]
   exact k2
theorem wpList_app_lists (w : World) {ops : Array Oper} {rest : List Oper} {o : Oper} {a : Act} {Q : Exit → Act → World → Prop} (hgd : o.guard = none) (s x : Operand)
 (ho : o.op = .call { callee := .builtin .append, args := #[s, x], argTypes := #[82, 82] }) {base : Nat} {v y : Value} {vs us : List Value} (hs : a.eval s = v) (hx : a.eval x = y)
 (hown : OwnVs w base v vs) (hy : Vals w y us) (h1 : ∀ u ∈ us, u.oneCell' = true) (hlen : vs.length + us.length ≤ 1000000) (hbase : base ≤ w.heap.size)
 (h : ∀ v' w', OwnVs w' base v' (vs ++ us) → w.grownBy w' v.ownBlock → wpList Tryz.prog ops Q rest (a.put o.dst v') w') : wpList Tryz.prog ops Q (o :: rest) a w := by
 refine wpList_plain hgd fun K hK => ?_
 obtain ⟨v', w', hr, h2, h3⟩ := run_app_lists w o.type hown hy h1 hlen hbase
 unfold Oper.wp execOp
 simp only [ho, resolve, invoke, builtin, Sem.run_bind, Sem.run_pure, Result.andThen_ok, List.map_toArray, List.map_cons, List.map_nil, hs, hx, hr]
 exact hK _ _ (h v' w' h2 h3)
theorem bss_new {w : World} {vs : List Value} {ls : List (List UInt8)} {g n : Nat} (hg : w.heap.size = g) (hn : ls.length = n) (hr : Reads w w.heap.size vs ls) : Bss (w.alloc (.cells vs.toArray 38)) (w.alloc (.cells vs.toArray 38)).heap.size (.slice (some ⟨g, 0, none⟩) n n) ls := by
 subst hg; subst hn
 refine ⟨_, _, rfl, Nat.le_refl _, fun _ => ⟨w.heap.size, 0, rfl, by simp, fun i l hl => ?_⟩⟩
 obtain ⟨u, h1, h2⟩ := hr.2 i l hl
 exact ⟨u, Row.cell (cs := vs) (t := 38) (Row.new rfl rfl) (by rw [Nat.zero_add]; exact h1), (h2.alloc (Nat.le_refl _) _).more (by simp)⟩
theorem pcs_of {w : World} {g n cap : Nat} {cur vs : List Value} {ls : List (List UInt8)} (hrow : Row w g (vs ++ cur) 38) (hr : Reads w g vs ls) (hn : n = ls.length) (hcap : n ≤ cap) : Pcs w g (.slice (some ⟨g, 0, none⟩) n cap) ls := by
 subst hn
 refine ⟨0, cap, _, rfl, hcap, hrow, by rw [List.length_append, hr.1]; omega, fun i l hl => ?_⟩
 obtain ⟨u, h1, h2⟩ := hr.2 i l hl
 have hi : i < vs.length := (List.getElem?_eq_some_iff.1 h1).1
 exact ⟨u, by rw [Nat.zero_add, List.getElem?_append_left hi]; exact h1, h2⟩
end Go.Proofs.YtedmogacklbcmaaGreatDoor
namespace Go.Proofs.YtedmogacklbcmaaGreatDoor
open Go.RowKit
set_option maxRecDepth 8000 in
set_option maxHeartbeats 1000000 in
theorem Padded_any (v : Value) (ls : List (List UInt8)) (w : World) (hb : Bss w w.heap.size v ls) (hn : ls.length ≤ 100000) (hm : ∀ l ∈ ls, l.length ≤ 1000000000) (hf : ls.flatten.length ≤ 1000000000000) :
 Calls Tryz.prog 111 #[v] w fun e w' => ∃ g v' , e = .returned (.tuple #[v', .int .i64 (((Sha.full ls.flatten).length / 64 : Nat) : Int)]) ∧ Pcs w' g v' (ls ++ [Sha.pad ls.flatten.length]) ∧ w.heap.size ≤ g ∧ Below w.heap.size w w' := by
 have Hb := Lib.hid hb
 have Hm := Lib.hid hm
 have Hf := Lib.hid hf
 obtain ⟨A, c, rfl, hc, hcs⟩ := hb
 have Hc := Lib.hid hc
 have Hcs := Lib.hid hcs
 clear hm hf hc hcs
 go_enter Tryz.func111, Tryz.ntmps111
 go_wp2
 go_loopw [10, 4] (fun iv sv wr => ∃ i n : Nat, i ≤ ls.length ∧ iv = .int .i64 (i : Int) ∧ sv = .int .i64 (n : Int) ∧ (ls.take i).flatten.length = n ∧ w = wr) (fun iv _ _ => ls.length - (intOf iv).toNat)
 case atStart => exact ⟨0, 0, Nat.zero_le _, rfl, rfl, rfl, rfl⟩
 case round =>
  obtain ⟨i, n, hi, rfl, rfl, hnl, rfl⟩ := hrel
  have Hnl := Lib.hid hnl
  clear hnl
  by_cases h1 : i < ls.length
  · have h1' : (i : Int) < (ls.length : Int) := by omega
    obtain ⟨b, off, rfl, hlt, hcell⟩ := Hcs.out (by intro h; subst h; simp at h1)
    obtain ⟨u, hu, hbs⟩ := hcell i _ (List.getElem?_eq_getElem h1)
    obtain ⟨piece, hpiece⟩ : ∃ piece, ls[i] = piece := ⟨_, rfl⟩
    have hpi : ls[i]? = some piece := by rw [← hpiece]; exact List.getElem?_eq_getElem h1
    rw [hpiece] at hbs
    obtain ⟨A2, c2, rfl, _, _⟩ := hbs
    have hsum : (ls.take (i + 1)).flatten.length = n + piece.length := by rw [Sha.take_flat hpi, List.length_append, Hnl.out]
    have hle : n + piece.length ≤ 1000000000000 := by
     rw [← hsum]
     have h2 : ls.flatten = (ls.take (i + 1)).flatten ++ (ls.drop (i + 1)).flatten := by rw [← List.flatten_append, List.take_append_drop]
     have h3 := congrArg List.length h2
     rw [List.length_append] at h3
     have := Hf.out
     omega
    have hws : IntKind.i64.wrap ((n : Int) + (piece.length : Int)) = (n : Int) + (piece.length : Int) := IntWalk.i64_in _ (by omega)
    have Hsum := Lib.hid hsum
    clear hcell hpi hsum hle hpiece
    go_wp2
    go_roundw
    case rel => exact ⟨i + 1, n + piece.length, h1, by simp, by simp, Hsum.out, trivial⟩
    case measure => simp [intOf]; omega
  · have h1' : ¬ (i : Int) < (ls.length : Int) := by omega
    have : i = ls.length := by omega
    subst this
    have hnf := Hnl.out
    rw [List.take_length] at hnf
    have hn12 : n ≤ 1000000000000 := by rw [← hnf]; exact Hf.out
    have Hnf := Lib.hid hnf
    clear hnf
    go_wp2_with fail
    refine (Pad_any n (by omega) _).mono ?_
    rintro e w1 ⟨rfl, hrow1, hb1⟩
    obtain ⟨L, hL⟩ : ∃ L, Sha.zerosOf n + 9 = L := ⟨_, rfl⟩
    have hL72 : L ≤ 72 := by have := (Sha.zerosOf_is n).2; omega
    have hdiv : (n + L) / 64 = (Sha.full ls.flatten).length / 64 := by rw [Sha.full_length, Hnf.out]; congr 1; omega
    rw [hL]
    obtain ⟨vs, hvals, hreads⟩ := bss_vals Hb.out
    have hvals1 : Vals w1 (.slice A ls.length c) vs := hvals.grown (B := w.heap.size) (by
     intro b off c' e hne
     have hl0 : ls ≠ [] := by intro h; subst h; exact hne (List.eq_nil_of_length_eq_zero hreads.1)
     obtain ⟨b', off', e', hlt, _⟩ := Hcs.out hl0
     rw [e'] at e
     simp only [Value.slice.injEq, Option.some.injEq, Addr.mk.injEq] at e
     omega) hb1
    have hcap : IntKind.i64.wrap ((ls.length : Int) + 1) = ((ls.length + 1 : Nat) : Int) := (IntWalk.i64_in _ (by omega)).trans (by omega)
    obtain ⟨M, hM⟩ : ∃ M, ls.length + 1 = M := ⟨_, rfl⟩
    rw [hM] at hcap
    have Hvals := Lib.hid hvals1
    have Hreads := Lib.hid (hreads.below hb1)
    have Hrow1 := Lib.hid hrow1
    have Hb1 := Lib.hid hb1
    have HM := Lib.hid hM
    have HL := Lib.hid hL
    have Hdiv := Lib.hid hdiv
    have hsz1 : w.heap.size < w1.heap.size := hrow1.lt
    have Hsz1 := Lib.hid hsz1
    clear hvals hvals1 hreads hrow1 hb1 hM hL hdiv hsz1
    have hq : ((n : Int) + (L : Int)) / 64 = (((Sha.full ls.flatten).length / 64 : Nat) : Int) := by rw [← Hdiv.out]; omega
    have Hq := Lib.hid hq
    clear hq
    go_wp2_with (first
     | (at_make; refine wpList_make_lists _ rfl _ _ rfl M rfl rfl (by have := HM.out; omega) ?_; intro w2 cur hrow2 hcl2 hg2
        have Hrow2 := Lib.hid hrow2
        have Hcl2 := Lib.hid hcl2
        have hb2 : Below w1.heap.size w1 w2 := (Below.refl _ w1).grown hg2 (Nat.le_refl _) (fun k hk => by cases hk)
        have Hb2 := Lib.hid hb2
        have Hv2 := Lib.hid (show Vals w2 (.slice A ls.length c) vs from Hvals.out.grown (B := w1.heap.size) (by
         intro b off c' e hne
         have hl0 : ls ≠ [] := by intro h; subst h; exact hne (List.eq_nil_of_length_eq_zero Hreads.out.1)
         obtain ⟨b', off', e', hlt, _⟩ := Hcs.out hl0
         rw [e'] at e
         simp only [Value.slice.injEq, Option.some.injEq, Addr.mk.injEq] at e
         have := Hsz1.out
         omega) hb2)
        clear hrow2 hcl2 hg2 hb2)
     | (show wpList _ _ _ (⟨some 26, _, _, _, _, _⟩ :: _) _ _; refine wpList_app_room (n := 0) w2 rfl _ _ rfl rfl rfl Hrow2.out Hcl2.out Hv2.out Hreads.out.one_cell (by rw [Hreads.out.1]; have := HM.out; omega) ?_; intro w3 hrow3 hk3
        have hvl : vs.length = ls.length := Hreads.out.1
        rw [List.take_zero, List.nil_append, Nat.zero_add, hvl] at hrow3
        rw [Nat.zero_add, hvl]
        have Hrow3 := Lib.hid hrow3
        have Hk3 := Lib.hid hk3
        have hsz3 : w1.heap.size < w3.heap.size := hrow3.lt
        have Hsz3 := Lib.hid hsz3
        have Hpadv := Lib.hid (show Row w3 w.heap.size ((Sha.pad n).map bv) 5 from (Hrow1.out.below Hb2.out Hsz1.out).keep hk3 (by have := Hsz1.out; omega))
        have Hb3 := Lib.hid (show Below w.heap.size w w3 from Below.keep (nextB Hb1.out (Nat.le_refl _) Hb2.out) hk3 (by have := Hb2.out.size; have := Hsz1.out; omega) (by have := Hsz1.out; omega))
        clear hrow3 hk3 hvl hsz3)
     | (show wpList _ _ _ (⟨some 30, _, _, _, _, _⟩ :: _) _ _
        refine wpList_app_room (n := ls.length) (w3.alloc (.cells #[.slice (some ⟨w.heap.size, 0, none⟩) L L] 38)) rfl _ _ rfl rfl rfl (Hrow3.out.alloc _) (by rw [List.length_append, List.length_drop, Hreads.out.1, Hcl2.out]; have := HM.out; omega) (vs := [.slice (some ⟨w.heap.size, 0, none⟩) L L])
         ⟨some ⟨w3.heap.size, 0, none⟩, 1, rfl, Nat.le_refl _, fun _ => ⟨w3.heap.size, 0, rfl, fun i u hu => by
          cases i with
          | zero => rw [List.getElem?_cons_zero] at hu; injection hu with hu; subst hu; exact Row.cell (cs := [.slice (some ⟨w.heap.size, 0, none⟩) L L]) (Row.new rfl rfl) rfl
          | succ i => simp at hu⟩⟩ (by intro u hu; simp only [List.mem_singleton] at hu; subst hu; rfl) (by have := HM.out; simp; omega) ?_
        intro w5 hrow5 hk5
        have Hrow5 := Lib.hid hrow5
        have Hk5 := Lib.hid hk5
        clear hrow5 hk5)
     | fail)
    refine bodyPost_ret (results_tmp2 rfl _ _ _) rfl ?_
    have hs2 := Hb2.out.size
    have hs3 := Hk3.out.size
    have hs3' : w2.heap.size ≤ w3.heap.size := hs3
    have hb13 : Below w1.heap.size w1 w3 := Below.keep Hb2.out Hk3.out hs2 (Nat.le_refl _)
    have hb15 : Below w1.heap.size w1 w5 := Below.keep (hb13.alloc (by omega) (.cells #[.slice (some ⟨w.heap.size, 0, none⟩) L L] 38)) Hk5.out (by simp; omega) (Nat.le_refl _)
    have hpl : (Sha.pad n).length = L := by rw [Sha.pad_length]; exact HL.out
    have hpad : Bs w5 w1.heap.size (.slice (some ⟨w.heap.size, 0, none⟩) L L) (Sha.pad n) := by
     have := (Hrow1.out.below hb15 Hsz1.out).bs (B := w1.heap.size) Hsz1.out
     rwa [hpl] at this
    have hrd : Reads w5 w1.heap.size (vs ++ [.slice (some ⟨w.heap.size, 0, none⟩) L L]) (ls ++ [Sha.pad n]) :=
     ((Hreads.out.below (hb15.mono (Nat.le_of_lt Hsz1.out))).more (Nat.le_of_lt Hsz1.out)).append (.one hpad)
    have hr5 := Hrow5.out
    rw [List.take_append_of_le_length (by rw [Hreads.out.1]; exact Nat.le_refl _), List.take_of_length_le (by rw [Hreads.out.1]; exact Nat.le_refl _)] at hr5
    refine ⟨w1.heap.size, _, by rw [← Hq.out]; rfl, ?_, Nat.le_of_lt Hsz1.out, nextB Hb1.out (Nat.le_refl _) hb15⟩
    rw [Hnf.out]
    exact pcs_of hr5 hrd (by simp) (Nat.le_of_eq HM.out)
end Go.Proofs.YtedmogacklbcmaaGreatDoor
namespace Go.Proofs.YtedmogacklbcmaaGreatDoor
open Go.RowKit
namespace Sha
def fillTo (k : Nat) (b : List UInt8) (n : Nat) : List UInt8 := b.take n ++ List.replicate (k - n) 0
theorem fillTo_length (k : Nat) (b : List UInt8) (n : Nat) (hb : b.length = k) (hn : n ≤ k) : (fillTo k b n).length = k := by
 rw [fillTo, List.length_append, List.length_take, List.length_replicate]
 omega
theorem fillTo_set (k : Nat) (b : List UInt8) (n : Nat) (u : UInt8) (hb : b.length = k) (hn : n < k) (hu : b[n]? = some u) : (fillTo k b n).set n u = fillTo k b (n + 1) := by
 apply List.ext_getElem?
 intro j
 rw [List.getElem?_set]
 unfold fillTo
 simp only [List.getElem?_append, List.length_append, List.length_take, List.length_replicate, List.getElem?_take, List.getElem?_replicate, hb]
 by_cases h1 : n = j
 · subst h1
   simp [show min n k = n by omega, show min (n + 1) k = n + 1 by omega, hu, show n < n + (k - n) by omega]
 · by_cases h2 : j < n
   · simp [h1, show min n k = n by omega, show min (n + 1) k = n + 1 by omega, h2, show j < n + 1 by omega]
   · simp [h1, show min n k = n by omega, show min (n + 1) k = n + 1 by omega, h2, show ¬ j < n + 1 by omega]
     by_cases h3 : j - n < k - n
     · simp [h3]
       omega
     · simp [h3]
       omega
theorem fillTo_all (k : Nat) (b : List UInt8) (hb : b.length = k) : fillTo k b k = b := by
 rw [fillTo, List.take_of_length_le (by omega), Nat.sub_self, List.replicate_zero, List.append_nil]
theorem full_64 (l : List UInt8) : 64 * ((full l).length / 64) = (full l).length := by
 have := (zerosOf_is l.length).1
 rw [full_length]
 omega
end Sha
theorem sbyte0 (x : BitVec 32) : Value.int .u8 ((x.toNat : Int) / 16777216) = .int .u8 (((x >>> (24 - 8 * 0)).toNat % 256 : Nat) : Int) := by
 rw [show 24 - 8 * 0 = 24 from rfl, BitVec.toNat_ushiftRight, Nat.shiftRight_eq_div_pow]
 have := x.isLt
 exact congrArg (Value.int .u8) (by omega)
theorem sbyte1 (x : BitVec 32) : Value.int .u8 ((x.toNat : Int) / 65536 % 256) = .int .u8 (((x >>> (24 - 8 * 1)).toNat % 256 : Nat) : Int) := by
 rw [w_shr16, show 24 - 8 * 1 = 16 from rfl]
 exact congrArg (Value.int .u8) (by omega)
theorem sbyte2 (x : BitVec 32) : Value.int .u8 ((x.toNat : Int) / 256 % 256) = .int .u8 (((x >>> (24 - 8 * 2)).toNat % 256 : Nat) : Int) := by
 rw [w_shr8, show 24 - 8 * 2 = 8 from rfl]
 exact congrArg (Value.int .u8) (by omega)
theorem sbyte3 (x : BitVec 32) : Value.int .u8 ((x.toNat : Int) % 256) = .int .u8 (((x >>> (24 - 8 * 3)).toNat % 256 : Nat) : Int) := by
 rw [show 24 - 8 * 3 = 0 from rfl, show x >>> 0 = x by simp]
 exact congrArg (Value.int .u8) (by omega)
set_option maxRecDepth 8000 in
set_option maxHeartbeats 1000000 in
theorem Sum_any (v : Value) (ls : List (List UInt8)) (w : World) (ht : Tab w) (hb : Bss w w.heap.size v ls) (hn : ls.length ≤ 100000) (hm : ∀ l ∈ ls, l.length ≤ 1000000000) (hf : ls.flatten.length ≤ 1000000000000) :
 Calls Tryz.prog 106 #[v] w fun e w' => e = .returned (arr8 (Sha.sum ls.flatten)) ∧ Below w.heap.size w w' := by
 have Ht := Lib.hid ht
 have Hb := Lib.hid hb
 have Hm := Lib.hid hm
 have Hf := Lib.hid hf
 clear ht hb hm hf
 go_enter Tryz.func106, Tryz.ntmps106
 go_wp2_with fail
 have hB0 := (Below.refl w.heap.size w).alloc (Nat.le_refl _) (.cells ((List.replicate 32 (0 : UInt8)).map bv).toArray 23)
 have hR0 : Row (w.alloc (.cells ((List.replicate 32 (0 : UInt8)).map bv).toArray 23)) w.heap.size ((List.replicate 32 (0 : UInt8)).map bv) 23 := Row.new rfl rfl
 have hss := (Hb.out.below hB0)
 refine (Padded_any v ls (w.alloc (.cells ((List.replicate 32 (0 : UInt8)).map bv).toArray 23)) (hss.more' (by simp)) hn Hm.out Hf.out).mono ?_
 rintro e w2 ⟨g, v2, rfl, hp2, hg2, hb2⟩
 have hsz0 : (w.alloc (.cells ((List.replicate 32 (0 : UInt8)).map bv).toArray 23)).heap.size = w.heap.size + 1 := by simp
 have hR2 := hR0.below hb2 (by rw [hsz0]; omega)
 have hB2 := nextB hB0 (Nat.le_refl _) hb2
 rw [hsz0] at hg2
 have hgl := hp2.lt
 clear hb2 hsz0 hB0 hR0 hss
 obtain ⟨N, hN⟩ : ∃ N, (Sha.full ls.flatten).length / 64 = N := ⟨_, rfl⟩
 have hfull : (ls ++ [Sha.pad ls.flatten.length]).flatten = Sha.full ls.flatten := by rw [List.flatten_append, Sha.full]; simp
 have h64 : 64 * N = (Sha.full ls.flatten).length := by rw [← hN]; exact Sha.full_64 _
 have hNb : N ≤ 1000000000000 := by
  have h1 := Hf.out
  have h2 := Sha.full_length ls.flatten
  have h3 := (Sha.zerosOf_is ls.flatten.length).2
  omega
 have hpm : ∀ l ∈ ls ++ [Sha.pad ls.flatten.length], l.length ≤ 1000000000 := by
  intro l hl
  rcases List.mem_append.1 hl with h | h
  · exact Hm.out l h
  · rw [List.mem_singleton] at h
    subst h
    rw [Sha.pad_length]
    have := (Sha.zerosOf_is ls.flatten.length).2
    omega
 rw [hN]
 obtain ⟨S, hS⟩ : ∃ S, Sha.blocks N Sha.start (Sha.full ls.flatten) = S := ⟨_, rfl⟩
 have hsum : Sha.sum ls.flatten = Sha.outOf S := by rw [Sha.sum, hN, hS]
 have hSl : S.length = 8 := by rw [← hS]; exact Sha.blocks_length _ _ _ rfl
 have Hp2 := Lib.hid hp2
 have HR2 := Lib.hid hR2
 have HB2 := Lib.hid hB2
 have Hg2 := Lib.hid hg2
 have Hgl := Lib.hid hgl
 have Hfull := Lib.hid hfull
 have H64 := Lib.hid h64
 have Hpm := Lib.hid hpm
 have Hsum := Lib.hid hsum
 have HS := Lib.hid hS
 have HSl := Lib.hid hSl
 clear hp2 hR2 hB2 hg2 hgl hfull h64 hpm hsum hS hSl hN
 go_wp2_with (first
  | (show wpList _ _ _ (⟨none, Op.store 176 _ _, _, _, _, _⟩ :: _) _ _; refine wpList_storeRow rfl 176 _ _ rfl rfl rfl (cs := Sha.start.map wv) (old := (List.replicate 8 0#32).map wv) (Row.new rfl rfl) (by kernel_rfl) rfl rfl (hwords_one _) ?_)
  | fail)
 have hr0 := (HR2.out.alloc (.cells ((List.replicate 8 0#32).map wv).toArray 176)).setOther w2.heap.size (Sha.start.map wv).toArray (Nat.ne_of_lt HR2.out.lt)
 have hr5 : Row ((w2.alloc (.cells ((List.replicate 8 0#32).map wv).toArray 176)).setRow w2.heap.size (Sha.start.map wv).toArray) w2.heap.size (Sha.start.map wv) 176 := (Row.new (cs := (List.replicate 8 0#32).map wv) rfl rfl).setRow (Sha.start.map wv)
 have hb5 := below_setRow (HB2.out.alloc HB2.out.size (.cells ((List.replicate 8 0#32).map wv).toArray 176)) (show w.heap.size ≤ w2.heap.size from HB2.out.size) (Sha.start.map wv).toArray
 have hp5 : Pcs ((w2.alloc (.cells ((List.replicate 8 0#32).map wv).toArray 176)).setRow w2.heap.size (Sha.start.map wv).toArray) g v2 (ls ++ [Sha.pad ls.flatten.length]) :=
  Hp2.out.below (below_setRow ((Below.refl w2.heap.size w2).alloc (Nat.le_refl _) (.cells ((List.replicate 8 0#32).map wv).toArray 176)) (Nat.le_refl _) (Sha.start.map wv).toArray) Hgl.out
 obtain ⟨V, hV⟩ : ∃ V, (w2.alloc (.cells ((List.replicate 8 0#32).map wv).toArray 176)).setRow w2.heap.size (Sha.start.map wv).toArray = V := ⟨_, rfl⟩
 refine code_world hV ?_
 rw [hV] at hr0 hr5 hb5 hp5
 obtain ⟨gs, hgs⟩ : ∃ gs, w2.heap.size = gs := ⟨_, rfl⟩
 have hggs : g < gs := by rw [← hgs]; exact Hgl.out
 have hwgs : w.heap.size < gs := by have := Hg2.out; omega
 rw [hgs] at hr5 ⊢
 have Hr0 := Lib.hid hr0
 have Hr5 := Lib.hid hr5
 have Hb5 := Lib.hid hb5
 have Hp5 := Lib.hid hp5
 clear hV hr0 hr5 hb5 hp5 hgs
 go_loopw [16, 3] (fun iv pv wr => ∃ (i : Nat) (st : List (BitVec 32)) (ps : List (List UInt8)), i ≤ N ∧ iv = .int .i64 (i : Int) ∧ st.length = 8 ∧ Sha.blocks (N - i) st ps.flatten = S ∧ 64 * (N - i) ≤ ps.flatten.length ∧ ps.length ≤ 100001 ∧ (∀ l ∈ ps, l.length ≤ 1000000000) ∧
  Pcs wr g pv ps ∧ Row wr w.heap.size ((List.replicate 32 (0 : UInt8)).map bv) 23 ∧ Row wr gs (st.map wv) 176 ∧ Below w.heap.size w wr) (fun iv _ _ => N - (intOf iv).toNat)
 case atStart => exact ⟨0, Sha.start, _, Nat.zero_le _, rfl, rfl, by rw [Hfull.out, Nat.sub_zero]; exact HS.out, by rw [Hfull.out, Nat.sub_zero, H64.out]; exact Nat.le_refl _, by simp; omega, Hpm.out, Hp5.out, Hr0.out, Hr5.out, Hb5.out⟩
 case round =>
  obtain ⟨i, st, ps, hi, rfl, hst, hblk, hlen, hpsl, hpsm, hp, hr0, hr5, hb⟩ := hrel
  have Hst := Lib.hid hst
  have Hblk := Lib.hid hblk
  have Hlen := Lib.hid hlen
  have Hpsm := Lib.hid hpsm
  have Hp := Lib.hid hp
  have Hr0 := Lib.hid hr0
  have Hr5 := Lib.hid hr5
  have Hb := Lib.hid hb
  clear hst hblk hlen hpsm hp hr0 hr5 hb
  by_cases hN : i < N
  · have hN' : (i : Int) < (N : Int) := by omega
    have hsub : N - i = (N - (i + 1)) + 1 := by omega
    have Hsub := Lib.hid hsub
    clear hsub
    go_wp2_with fail
    refine (Cut_any g u3 ps _ (Hp.out.below ((Below.refl wr.heap.size wr).alloc (Nat.le_refl _) _) Hp.out.lt) (by have := Hlen.out; have := Hsub.out; omega) (by omega) Hpsm.out).mono ?_
    rintro e w3 ⟨pv', ps', rfl, hp3, hfl3, hpl3, hpm3, hk3⟩
    have hka : Ev.Keep ⟨wr.alloc (.cells ((List.replicate 16 0#32).map wv).toArray 147), fun k => k = g⟩ w3 := hk3
    have hglt := Hp.out.lt
    have hne0 : w.heap.size ≠ g := by have := Hg2.out; omega
    have hneS : gs ≠ g := by omega
    have hgb := (Row.new (w := wr) (cs := (List.replicate 16 0#32).map wv) (t := 147) rfl rfl).keep hka (show wr.heap.size ≠ g by omega)
    have hr0 := (Hr0.out.alloc (.cells ((List.replicate 16 0#32).map wv).toArray 147)).keep hka hne0
    have hr5 := (Hr5.out.alloc (.cells ((List.replicate 16 0#32).map wv).toArray 147)).keep hka hneS
    have hb3 := Below.keep (Hb.out.alloc Hb.out.size (.cells ((List.replicate 16 0#32).map wv).toArray 147)) hka (by have := Hb.out.size; simp; omega) (by have := Hg2.out; omega)
    obtain ⟨gb, hgbe⟩ : ∃ gb, wr.heap.size = gb := ⟨_, rfl⟩
    rw [hgbe] at hgb hglt ⊢
    have hgsb : gs < gb := by rw [← hgbe]; exact Hr5.out.lt
    have hwb : w.heap.size < gb := by have := Hg2.out; omega
    obtain ⟨Wd, hWd⟩ : ∃ Wd, Sha.words ps.flatten = Wd := ⟨_, rfl⟩
    have hWl : Wd.length = 16 := by rw [← hWd]; exact Sha.words_length _
    rw [hWd]
    have Hp3 := Lib.hid hp3
    have Hfl3 := Lib.hid hfl3
    have Hpm3 := Lib.hid hpm3
    have Hgb := Lib.hid hgb
    have Hr0 := Lib.hid hr0
    have Hr5 := Lib.hid hr5
    have Hb3 := Lib.hid hb3
    have HWd := Lib.hid hWd
    have HWl := Lib.hid hWl
    have HWm := Lib.hid (show (Wd.map wv).length = 16 by rw [List.length_map]; exact hWl)
    have Hsm := Lib.hid (show (st.map wv).length = 8 by rw [List.length_map]; exact Hst.out)
    clear hk3 hka hp3 hfl3 hpm3 hgb hr0 hr5 hb3 hgbe hWd hWl
    unfold arr32
    go_wp2_with (first
     | (show wpList _ _ _ (⟨none, Op.store 147 _ _, _, _, _, _⟩ :: _) _ _; refine wpList_storeRow (g := gb) rfl 147 _ _ rfl rfl rfl (cs := Wd.map wv) Hgb.out (by kernel_rfl) HWm.out (by simp) (hwords_one Wd) ?_
        have hgb := Hgb.out.setRow (Wd.map wv)
        have hr0 := Hr0.out.setOther gb (Wd.map wv).toArray (Nat.ne_of_lt hwb)
        have hr5 := Hr5.out.setOther gb (Wd.map wv).toArray (Nat.ne_of_lt hgsb)
        have hb3 := below_setRow Hb3.out (Nat.le_of_lt hwb) (Wd.map wv).toArray
        have hp3 := Hp3.out.below (below_setRow (Below.refl gb w3) (Nat.le_refl _) (Wd.map wv).toArray) hglt
        obtain ⟨V4, hV4⟩ : ∃ V4, w3.setRow gb (Wd.map wv).toArray = V4 := ⟨_, rfl⟩
        rw [hV4] at hgb hr0 hr5 hb3 hp3
        refine wpList_in hV4 ?_
        have Hgb := Lib.hid hgb
        have Hr0 := Lib.hid hr0
        have Hr5 := Lib.hid hr5
        have Hb3 := Lib.hid hb3
        have Hp3 := Lib.hid hp3
        clear hV4 hgb hr0 hr5 hb3 hp3)
     | (show wpList _ _ _ (⟨some 23, _, _, _, _, _⟩ :: _) _ _; refine wpList_loadRow (g := gs) rfl 176 _ rfl rfl Hr5.out Tryz.underlying176 rfl (by kernel_rfl) Hsm.out ?_)
     | (show wpList _ _ _ (⟨some 24, _, _, _, _, _⟩ :: _) _ _; refine wpList_loadRow (g := gb) rfl 147 _ rfl rfl Hgb.out Tryz.underlying147 rfl (by kernel_rfl) HWm.out ?_)
     | fail)
    refine (Comp_any st Wd Hst.out HWl.out V4 (Ht.out.below Hb3.out Ht.out.1)).mono ?_
    rintro e w6 ⟨rfl, hb6⟩
    have hsb := Hb3.out.size
    have hr0l := Hr0.out.lt
    have hr5l := Hr5.out.lt
    have hgl4 := Hp3.out.lt
    have Hr0 := Lib.hid (Hr0.out.below hb6 hr0l)
    have Hr5 := Lib.hid (Hr5.out.below hb6 hr5l)
    have Hp3 := Lib.hid (Hp3.out.below hb6 hgl4)
    have Hb3 := Lib.hid (nextB Hb3.out (Nat.le_refl _) hb6)
    obtain ⟨S2, hS2⟩ : ∃ S2, Sha.comp st Wd = S2 := ⟨_, rfl⟩
    have hS2l : S2.length = 8 := by rw [← hS2]; exact Sha.comp_length _ _ Hst.out
    rw [hS2]
    have HS2 := Lib.hid hS2
    have HS2l := Lib.hid hS2l
    have HS2m := Lib.hid (show (S2.map wv).length = 8 by rw [List.length_map]; exact hS2l)
    clear hb6 hsb hr0l hr5l hgl4 hS2 hS2l
    unfold arr32
    go_wp2_with (first
     | (show wpList _ _ _ (⟨none, Op.store 176 _ _, _, _, _, _⟩ :: _) _ _; refine wpList_storeRow (g := gs) rfl 176 _ _ rfl rfl rfl (cs := S2.map wv) Hr5.out (by kernel_rfl) HS2m.out Hsm.out (hwords_one S2) ?_)
     | fail)
    go_roundw
    case rel =>
     refine ⟨i + 1, S2, ps', hN, by simp, HS2l.out, ?_, ?_, by omega, Hpm3.out, ?_, Hr0.out.setOther gs _ (by omega), Hr5.out.setRow _, below_setRow Hb3.out (by omega) _⟩
     · rw [Hfl3.out, ← HS2.out, ← HWd.out]
       have := Hblk.out
       rw [Hsub.out, Sha.blocks] at this
       exact this
     · rw [Hfl3.out, List.length_drop]
       have := Hlen.out
       have := Hsub.out
       omega
     · exact Hp3.out.below (below_setRow (Below.refl gs w6) (Nat.le_refl _) _) hggs
    case measure => simp [intOf]; omega
  · have hN' : ¬ (i : Int) < (N : Int) := by omega
    have : i = N := by omega
    subst this
    have hst2 : st = S := by have := Hblk.out; rw [Nat.sub_self, Sha.blocks] at this; exact this
    subst hst2
    obtain ⟨B, hB⟩ : ∃ B, Sha.outOf st = B := ⟨_, rfl⟩
    have hBl : B.length = 32 := by rw [← hB, Sha.outOf_length, HSl.out]
    have hat : ∀ q r, q < 8 → r < 4 → B[4 * q + r]? = some (Sha.byteOf (Sha.at_ st q) r) := by
     intro q r hq hr
     rw [← hB, Sha.outOf_at _ _ _ hr, List.getElem?_eq_getElem (by rw [HSl.out]; exact hq), Sha.at_, List.getD_eq_getElem?_getD, List.getElem?_eq_getElem (by rw [HSl.out]; exact hq)]
     rfl
    have HB := Lib.hid hB
    have HBl := Lib.hid hBl
    have Hat := Lib.hid hat
    clear hB hBl hat
    go_wp2_with fail
    have hsz := Hb.out.size
    have hr7 : Row (wr.alloc (.cells ((List.replicate 32 (0 : UInt8)).map bv).toArray 23)) wr.heap.size ((Sha.fillTo 32 B 0).map bv) 23 := Row.new rfl rfl
    obtain ⟨gm, hgm⟩ : ∃ gm, wr.heap.size = gm := ⟨_, rfl⟩
    have hr0 := Hr0.out.alloc (.cells ((List.replicate 32 (0 : UInt8)).map bv).toArray 23)
    have hr5 := Hr5.out.alloc (.cells ((List.replicate 32 (0 : UInt8)).map bv).toArray 23)
    have hb7 := Hb.out.alloc hsz (.cells ((List.replicate 32 (0 : UInt8)).map bv).toArray 23)
    obtain ⟨V7, hV7⟩ : ∃ V7, wr.alloc (.cells ((List.replicate 32 (0 : UInt8)).map bv).toArray 23) = V7 := ⟨_, rfl⟩
    refine code_world hV7 ?_
    rw [hV7] at hr7 hr0 hr5 hb7
    have hgsm : gs < gm := by rw [← hgm]; exact Hr5.out.lt
    rw [hgm] at hr7 ⊢
    have Hr7 := Lib.hid hr7
    have Hr0 := Lib.hid hr0
    have Hr5 := Lib.hid hr5
    have Hb := Lib.hid hb7
    clear hV7 hr7 hr0 hr5 hb7 hgm hsz
    have HiN := Lib.hid hi
    clear hi hN hN' hNb
    obtain ⟨N, hNN⟩ : ∃ N, i = N := ⟨_, rfl⟩
    go_loopw [27] (fun iv wq => ∃ i : Nat, i ≤ 32 ∧ iv = .int .i64 (i : Int) ∧ Row wq w.heap.size ((List.replicate 32 (0 : UInt8)).map bv) 23 ∧ Row wq gs (st.map wv) 176 ∧ Row wq gm ((Sha.fillTo 32 B i).map bv) 23 ∧ Below w.heap.size w wq) (fun iv _ => 32 - (intOf iv).toNat)
    case atStart => exact ⟨0, by omega, rfl, Hr0.out, Hr5.out, Hr7.out, Hb.out⟩
    case round =>
     obtain ⟨i, hi, rfl, hr0, hr5, hr7, hb⟩ := hrel
     have Hr0 := Lib.hid hr0
     have Hr5 := Lib.hid hr5
     have Hr7 := Lib.hid hr7
     have Hb := Lib.hid hb
     clear hr0 hr5 hr7 hb
     by_cases h32 : i < 32
     · have h32' : (i : Int) < 32 := by omega
       obtain ⟨q, hq⟩ : ∃ q, i / 4 = q := ⟨_, rfl⟩
       have hq8 : q < 8 := by omega
       have hqi : (i : Int) / 4 = (q : Int) := by omega
       have hwc := Hr5.out.cell (hgetD_word st q (by rw [HSl.out]; exact hq8))
       obtain ⟨x, hx⟩ : ∃ x, Sha.at_ st q = x := ⟨_, rfl⟩
       rw [hx] at hwc
       have hfl := Sha.fillTo_length 32 B i HBl.out (by omega)
       obtain ⟨v0, hv0⟩ : ∃ v0, wr.cell? ⟨gm, i, none⟩ = some v0 := ⟨_, Hr7.out.cell (hgetD_cell _ i (by rw [hfl]; exact h32))⟩
       have hfr := frozen_row Hr7.out i
       have hset : ∀ r, r < 4 → i % 4 = r → Row (wr.setCell ⟨gm, i, none⟩ (.int .u8 (((x >>> (24 - 8 * r)).toNat % 256 : Nat) : Int))) gm ((Sha.fillTo 32 B (i + 1)).map bv) 23 := by
        intro r hr hir
        have e : i = 4 * q + r := by omega
        have h1 := Hat.out q r hq8 hr
        rw [← e, hx] at h1
        have := Hr7.out.set i (bv (Sha.byteOf x r))
        rw [← List.map_set, Sha.fillTo_set 32 B i _ HBl.out h32 h1, Sha.byteOf_is] at this
        exact this
       have Hset4 := Lib.hid hset
       clear hset hfl hx
       have Hq := Lib.hid hq
       clear hq
       have h4 : i % 4 = 0 ∨ i % 4 = 1 ∨ i % 4 = 2 ∨ i % 4 = 3 := by omega
       rcases h4 with h4 | h4 | h4 | h4
       · have hr4 : (i : Int) % 4 = 0 := by omega
         have Hset := Lib.hid (Hset4.out 0 (by omega) h4)
         clear h4
         go_wp2
         rw [sbyte0]
         go_roundw
         case rel => exact ⟨i + 1, h32, by simp, Hr0.out.other _ _ (by dsimp only; omega), Hr5.out.other _ _ (by dsimp only; omega), Hset.out, Hb.out.setCell (by dsimp only; omega) _⟩
         case measure => simp [intOf]; omega
       · have hr4 : (i : Int) % 4 = 1 := by omega
         have Hset := Lib.hid (Hset4.out 1 (by omega) h4)
         clear h4
         go_wp2
         rw [sbyte1]
         go_roundw
         case rel => exact ⟨i + 1, h32, by simp, Hr0.out.other _ _ (by dsimp only; omega), Hr5.out.other _ _ (by dsimp only; omega), Hset.out, Hb.out.setCell (by dsimp only; omega) _⟩
         case measure => simp [intOf]; omega
       · have hr4 : (i : Int) % 4 = 2 := by omega
         have Hset := Lib.hid (Hset4.out 2 (by omega) h4)
         clear h4
         go_wp2
         rw [sbyte2]
         go_roundw
         case rel => exact ⟨i + 1, h32, by simp, Hr0.out.other _ _ (by dsimp only; omega), Hr5.out.other _ _ (by dsimp only; omega), Hset.out, Hb.out.setCell (by dsimp only; omega) _⟩
         case measure => simp [intOf]; omega
       · have hr4 : (i : Int) % 4 = 3 := by omega
         have Hset := Lib.hid (Hset4.out 3 (by omega) h4)
         clear h4
         go_wp2
         rw [sbyte3]
         go_roundw
         case rel => exact ⟨i + 1, h32, by simp, Hr0.out.other _ _ (by dsimp only; omega), Hr5.out.other _ _ (by dsimp only; omega), Hset.out, Hb.out.setCell (by dsimp only; omega) _⟩
         case measure => simp [intOf]; omega
     · have h32' : ¬ (i : Int) < 32 := by omega
       have : i = 32 := by omega
       subst this
       have hr7 := Hr7.out.same (cs' := B.map bv) (by rw [Sha.fillTo_all 32 B HBl.out])
       have Hr7 := Lib.hid hr7
       have Hlb := Lib.hid (show (B.map bv).length = 32 by rw [List.length_map]; exact HBl.out)
       clear hr7
       go_wp2_with (first
        | (refine wpList_loadRow rfl 23 _ rfl rfl Hr7.out Tryz.underlying23 rfl (by kernel_rfl) Hlb.out ?_)
        | (refine wpList_storeRow rfl 23 _ _ rfl rfl rfl Hr0.out (by kernel_rfl) Hlb.out (by simp) (hbytes_one B) ?_))
       refine bodyPost_ret (results_row rfl _ rfl (Hr0.out.setRow (B.map bv)) Tryz.underlying23 rfl (by kernel_rfl) Hlb.out) rfl ?_
       exact ⟨by rw [Hsum.out, HB.out]; rfl, below_setRow Hb.out (by omega) _⟩
end Go.Proofs.YtedmogacklbcmaaGreatDoor
