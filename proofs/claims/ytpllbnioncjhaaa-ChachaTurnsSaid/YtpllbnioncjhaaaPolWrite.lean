/- Write: what a mac holds behind it. -/
import Derived.Test.YtpllbnioncjhaaaPolTag
import Derived.Laws.CopyOwn
namespace Go.Proofs.Ytpllbnioncjhaaa
open Go.RowKit
namespace Pol
open Poly (L)
/-- Block i of l. -/
def blockAt (l : List UInt8) (i : Nat) : Nat := Poly.le ((l.drop (16 * i)).take 16) + 256 ^ 16
def zeroL : L := ⟨0, 0, 0, 0, 0⟩
/-- The sum of the first n full blocks. -/
def sumN (r : L) (l : List UInt8) : Nat → L
  | 0 => zeroL
  | n + 1 => Poly.next (sumN r l n) r (blockAt l n)
def sumL (r : L) (l : List UInt8) : L := sumN r l (l.length / 16)
/-- The mac at g has these bytes. -/
def MacAt (w : World) (g : Nat) (r s : L) (l : List UInt8) : Prop :=
  ∃ rest : List UInt8, rest.length = 16 ∧ rest.take (l.length % 16) = l.drop (16 * (l.length / 16)) ∧ Row w g (macCells r s (sumL r l) rest l.length) 73
theorem blockAt_append {l l2 : List UInt8} {i : Nat} (h : 16 * i + 16 ≤ l.length) : blockAt (l ++ l2) i = blockAt l i := by
  unfold blockAt
  rw [List.drop_append_of_le_length (by omega), List.take_append_of_le_length (by rw [List.length_drop]; omega)]
theorem sumN_append {r : L} {l l2 : List UInt8} : ∀ {n : Nat}, 16 * n ≤ l.length → sumN r (l ++ l2) n = sumN r l n
  | 0, _ => rfl
  | n + 1, h => by
    simp only [sumN]
    rw [sumN_append (by omega), blockAt_append (by omega)]
theorem sumN_loose {r : L} (hr : Poly.Fit r) (l : List UInt8) : ∀ n, Poly.Loose (sumN r l n)
  | 0 => by simp only [sumN, zeroL, Poly.Loose]; decide
  | n + 1 => Poly.next_loose (sumN_loose hr l n) hr (by
      have h1 := Poly.le_lt ((l.drop (16 * n)).take 16)
      have h2 : 256 ^ ((l.drop (16 * n)).take 16).length ≤ 256 ^ 16 := Nat.pow_le_pow_right (by decide) (by rw [List.length_take]; omega)
      have e : (256 : Nat) ^ 16 = 340282366920938463463374607431768211456 := by decide
      unfold blockAt
      omega)
/-- One piece that fits into what is left of a block. -/
theorem step_take {l b rest : List UInt8} (hr : rest.length = 16) (h : rest.take (l.length % 16) = l.drop (16 * (l.length / 16))) (hb : l.length % 16 + b.length < 16) :
    (splice rest (l.length % 16) b).take ((l ++ b).length % 16) = (l ++ b).drop (16 * ((l ++ b).length / 16)) := by
  have e1 : (l ++ b).length = l.length + b.length := List.length_append
  have e2 : (l.length + b.length) % 16 = l.length % 16 + b.length := by omega
  have e3 : (l.length + b.length) / 16 = l.length / 16 := by omega
  rw [e1, e2, e3, List.drop_append_of_le_length (by omega), ← h]
  unfold splice
  have hl : (rest.take (l.length % 16)).length = l.length % 16 := by rw [List.length_take]; omega
  rw [List.take_append, hl, Nat.add_sub_cancel_left, List.take_append_of_le_length (Nat.le_refl _), List.take_length, List.take_of_length_le (by omega)]
/-- One piece that fills a block. -/
theorem step_fill {l b rest : List UInt8} (hr : rest.length = 16) (h : rest.take (l.length % 16) = l.drop (16 * (l.length / 16))) (hb : l.length % 16 + b.length = 16) :
    splice rest (l.length % 16) b = ((l ++ b).drop (16 * (l.length / 16))).take 16 ∧ (l ++ b).length % 16 = 0 ∧ (l ++ b).length / 16 = l.length / 16 + 1 := by
  have e1 : (l ++ b).length = l.length + b.length := List.length_append
  refine ⟨?_, by omega, by omega⟩
  rw [List.drop_append_of_le_length (by omega), ← h]
  unfold splice
  rw [hb, List.drop_of_length_le (by omega), List.append_nil]
  exact (List.take_of_length_le (by rw [List.length_append, List.length_take]; omega)).symm
theorem sum_fill {r : L} {l b rest : List UInt8} (hr : rest.length = 16) (h : rest.take (l.length % 16) = l.drop (16 * (l.length / 16))) (hb : l.length % 16 + b.length = 16) :
    sumL r (l ++ b) = Poly.next (sumL r l) r (Poly.le (splice rest (l.length % 16) b) + 256 ^ 16) := by
  obtain ⟨h1, h2, h3⟩ := step_fill hr h hb
  unfold sumL
  rw [h3]
  simp only [sumN]
  rw [sumN_append (by omega), h1]
  rfl
theorem sum_take {r : L} {l b : List UInt8} (hb : l.length % 16 + b.length < 16) : sumL r (l ++ b) = sumL r l := by
  have e1 : (l ++ b).length = l.length + b.length := List.length_append
  unfold sumL
  rw [show (l ++ b).length / 16 = l.length / 16 by omega, sumN_append (by omega)]
theorem MacAt.new {w : World} {g : Nat} {r s : L} (h : Row w g (macCells r s zeroL (List.replicate 16 0) 0) 73) : MacAt w g r s [] := ⟨_, by simp, by simp, h⟩

theorem mac_head (r s S : L) : ∃ X : List Value, (∀ rest sz, macCells r s S rest sz = X ++ (rest.map bv ++ [.int .i64 ((sz : Nat) : Int)])) ∧ X.length = 16 :=
  ⟨.bool true :: (lc r ++ (lc s ++ lc S)), fun rest sz => by simp [macCells], rfl⟩
theorem mac_splice {r s S : L} {rest p : List UInt8} {sz k : Nat} (h : rest.length = 16) (hk : k + p.length ≤ 16) : splice (macCells r s S rest sz) (16 + k) (p.map bv) = macCells r s S (splice rest k p) sz := by
  obtain ⟨X, hX, hl⟩ := mac_head r s S
  rw [hX, hX]
  unfold splice
  rw [← hl, Nat.add_assoc, List.take_length_add_append, List.drop_length_add_append, List.length_map, List.take_append_of_le_length (by simp; omega), List.drop_append_of_le_length (by simp; omega)]
  simp
theorem mac_sum_store {r s S X : L} {rest : List UInt8} {sz : Nat} : splice (macCells r s S rest sz) 11 (lc X) = macCells r s X rest sz := by
  simp [splice, macCells, lc]
theorem mac_set {r s S : L} {rest : List UInt8} {sz sz' : Nat} (h : rest.length = 16) : (macCells r s S rest sz).set 32 (.int .i64 (sz' : Int)) = macCells r s S rest sz' := by
  obtain ⟨X, hX, hl⟩ := mac_head r s S
  rw [hX, hX, List.set_append_right _ _ (by omega), hl, List.set_append_right _ _ (by simp; omega)]
  simp [h]
section
variable {P : Program}
/-- Part of a row, written. -/
theorem wpList_storeSub {ops : Array Oper} {rest : List Oper} {o : Oper} {a : Act} {w : World} {Q : Exit → Act → World → Prop} (hgd : o.guard = none) (ty : TypeId) (x y : Operand) (ho : o.op = .store ty x y)
    {g off : Nat} {cs old : List Value} (hx : a.eval x = .pointer (some ⟨g, off, none⟩)) (hy : a.eval y = .agg cs.toArray) {t : TypeId} (h : Row w g old t)
    {n : Nat} (hi : (P.info? ty).map (·.size) = some n) (hn : cs.length = n) (hfit : off + cs.length ≤ old.length) (h1 : ∀ v ∈ cs, v.oneCell' = true)
    (hk : wpList P ops Q rest (a.put o.dst undef) (w.setRow g (splice old off cs).toArray)) : wpList P ops Q (o :: rest) a w := by
  refine wpList_plain hgd fun K hK => ?_
  have hrun := run_storeCells_at (P := P) g off t cs 0 old.toArray w h (by simpa using hfit) h1
  cases hq : P.info? ty with
  | none => simp [hq] at hi
  | some i =>
    have hs : i.size = cs.length := by simp [hq] at hi; omega
    have hrun2 : (storeVar ty ⟨g, off, none⟩ (.agg cs.toArray)).run P w = .ok () (w.setRow g (splice old off cs).toArray) := by
      simp [storeVar, sizeOf, typeInfo, hq, Value.cells, hs, hrun, splice]
    unfold Oper.wp execOp
    simp only [ho, hx, hy, Instr.storeAt, Instr.sureAddr, Sem.run_bind, Sem.run_pure, Result.andThen_ok, hrun2]
    exact hK _ _ hk
end
theorem rest_len {rest p : List UInt8} {k : Nat} (h : rest.length = 16) (hk : k + p.length ≤ 16) : (splice rest k p).length = 16 := by rw [length_splice _ _ _ (by omega), h]
theorem row_copied {w : World} {g k sz : Nat} {r s S : L} {rest p : List UInt8} (h : rest.length = 16) (hk : k + p.length ≤ 16) (hg : Row w g (splice (macCells r s S rest sz) (16 + k) (p.map bv)) 73) : Row w g (macCells r s S (splice rest k p) sz) 73 := hg.same (mac_splice h hk).symm
theorem copy_src {w wr w4 : World} {g kb off : Nat} {b p : List UInt8} (h4 : Grew wr.drew w4) (hk : Ev.Keep ⟨w, fun k => k = g⟩ wr) (hne : kb ≠ g) (hlt : kb < w.heap.size)
    (hc : ∀ (i : Nat) (u : UInt8), b[i]? = some u → w.cell? ⟨kb, off + i, none⟩ = some (bv u)) (hp : ∀ (i : Nat) (u : UInt8), p[i]? = some u → b[i]? = some u) :
    ∀ j v, (p.map bv)[j]? = some v → w4.cell? ((⟨kb, off, none⟩ : Addr).add j) = some v := by
  intro j v hv
  rw [List.getElem?_map, Option.map_eq_some_iff] at hv
  obtain ⟨u, hu, rfl⟩ := hv
  have hadd : (⟨kb, off, none⟩ : Addr).add j = ⟨kb, off + j, none⟩ := by unfold Addr.add; split <;> simp_all
  rw [hadd, ← hc j u (hp j u hu)]
  have h1 : wr.heap[kb]? = w.heap[kb]? := hk.block kb (by
    rintro (e | e)
    · exact absurd hlt (Nat.not_lt.2 e)
    · exact hne e)
  have h2 : w4.heap[kb]? = wr.heap[kb]? := h4.block kb (by
    have := hk.size
    have e1 : w.heap.size ≤ wr.heap.size := this
    show kb < wr.heap.size
    omega)
  exact World.cell?_of_block (a := ⟨kb, off + j, none⟩) (h2.trans h1)
theorem mac_bs {w : World} {g sz : Nat} {r s S : L} {rest : List UInt8} (h : rest.length = 16) (hm : Row w g (macCells r s S rest sz) 73) : Bs w w.heap.size (.slice (some ⟨g, 16, none⟩) 16 16) rest :=
  ⟨_, 16, by rw [h], by omega, fun _ => ⟨g, 16, rfl, hm.lt, fun i u hu => hm.cell (mac_rest r s S rest sz i u hu)⟩⟩
theorem wpList_copy_keep {P : Program} {w : World} {ops : Array Oper} {rest : List Oper} {o : Oper} {a : Act} {Q : Exit → Act → World → Prop} (hgd : o.guard = none) (d s : Operand) (dT sT : TypeId)
    (ho : o.op = .call { callee := .builtin .copy, args := #[d, s], argTypes := #[dT, sT] }) (elem : TypeId) (hu : P.underlying dT = some (.slice elem)) (hsz : (P.info? elem).map (·.size) = some 1)
    {g off dLen dCap : Nat} {ad : Addr} {sLen sCap : Nat} (hd : a.eval d = .slice (some ⟨g, off, none⟩) dLen dCap) (hs : a.eval s = .slice (some ad) sLen sCap)
    {cur : List Value} {t : TypeId} (hg : Row w g cur t) (cs : List Value) (hn : cs.length = Nat.min sLen dLen)
    (hsrc : ∀ j v, cs[j]? = some v → w.cell? (ad.add j) = some v) (hfit : off + cs.length ≤ cur.length) (h1 : ∀ v ∈ cs, v.oneCell' = true)
    (h : ∀ w', Row w' g (splice cur off cs) t → Ev.Keep ⟨w, fun k => k = g⟩ w' → wpList P ops Q rest (a.put o.dst (goInt cs.length)) w') : wpList P ops Q (o :: rest) a w := by
  refine wpList_copy_own hgd d s dT sT ho elem hu hsz g off dLen dCap ad sLen sCap hd hs cur.toArray t hg cs hn hsrc (by simpa using hfit) h1 (h _ ?_ ⟨rfl, rfl, rfl, by simp [World.setRow], fun k hk => setRow_other w g k _ fun e => hk (.inr e)⟩)
  exact setRow_heap w g _ _ t _ hg
theorem keep_on {w wr w4 w5 : World} {g : Nat} (h1 : Ev.Keep ⟨w, fun k => k = g⟩ wr) (h2 : Grew wr.drew w4) (h3 : Ev.Keep ⟨w4, fun k => k = g⟩ w5) : Ev.Keep ⟨w, fun k => k = g⟩ w5 := by
  have s1 : w.heap.size ≤ wr.heap.size := h1.size
  have s2 : wr.heap.size ≤ w4.heap.size := h2.size
  have s3 : w4.heap.size ≤ w5.heap.size := h3.size
  refine ⟨h3.os.trans (h2.os.trans h1.os), h3.tape.trans (h2.tape.trans h1.tape), h3.output.trans (h2.output.trans h1.output), by show w.heap.size ≤ _; omega, fun k hk => ?_⟩
  have hk1 : k < w.heap.size := Nat.lt_of_not_le fun e => hk (.inl e)
  have hk2 : k ≠ g := fun e => hk (.inr e)
  have e3 := h3.block k (by
    rintro (e | e)
    · have e' : w4.heap.size ≤ k := e
      omega
    · exact hk2 e)
  have e2 := h2.block k (by show k < wr.heap.size; omega)
  exact e3.trans (e2.trans (h1.block k hk))
theorem keep_setRow {w : World} {g : Nat} (cs : Array Value) : Ev.Keep ⟨w, fun k => k = g⟩ (w.setRow g cs) := ⟨rfl, rfl, rfl, by simp [World.setRow], fun k hk => setRow_other w g k _ fun e => hk (.inr e)⟩
theorem joined {l b l' p : List UInt8} {j m : Nat} (hl' : l ++ b.take j = l') (hp : (b.drop j).take m = p) : l ++ b.take (j + p.length) = l' ++ p := by
  rw [← hl', List.append_assoc]
  congr 1
  rw [List.take_add]
  congr 1
  rw [← hp, List.length_take, ← List.take_take, List.take_length]
theorem mac_after_take {W : World} {g : Nat} {r s S : L} {l' p rest' : List UInt8} {sz k16 : Nat} (HRl : rest'.length = 16) (Hrest : rest'.take (l'.length % 16) = l'.drop (16 * (l'.length / 16))) (HS : sumL r l' = S) (Hszl : l'.length = sz) (Hk : sz % 16 = k16)
    (hlt : k16 + p.length < 16) (hrow : Row W g (macCells r s S (splice rest' k16 p) (sz + p.length)) 73) : MacAt W g r s (l' ++ p) := by
  subst HS
  subst Hszl
  subst Hk
  refine ⟨_, rest_len HRl (Nat.le_of_lt hlt), step_take HRl Hrest hlt, ?_⟩
  rw [sum_take hlt, List.length_append]
  exact hrow
theorem mac_after_fill {W : World} {g : Nat} {r s S : L} {l' p rest' : List UInt8} {sz k16 : Nat} (HRl : rest'.length = 16) (Hrest : rest'.take (l'.length % 16) = l'.drop (16 * (l'.length / 16))) (HS : sumL r l' = S) (Hszl : l'.length = sz) (Hk : sz % 16 = k16)
    (heq : k16 + p.length = 16) (hrow : Row W g (macCells r s (Poly.next S r (Poly.le (splice rest' k16 p) + 256 ^ 16)) (splice rest' k16 p) (sz + p.length)) 73) : MacAt W g r s (l' ++ p) := by
  subst HS
  subst Hszl
  subst Hk
  obtain ⟨h1, h2, h3⟩ := step_fill HRl Hrest heq
  refine ⟨_, rest_len HRl (Nat.le_of_eq heq), ?_, ?_⟩
  · rw [h2, List.take_zero, List.drop_of_length_le (by omega)]
  · rw [sum_fill HRl Hrest heq, List.length_append]
    exact hrow
theorem slice_next {w : World} {g kb off j n c' : Nat} {b : List UInt8} (hkg : kb ≠ g) (hkw : kb < w.heap.size) (hn : n ≤ b.length - j) (hc : b.length - j ≤ c') (hc2 : ¬ c' = n)
    (hcell : ∀ (i : Nat) (u : UInt8), (b.drop j)[i]? = some u → w.cell? ⟨kb, off + i, none⟩ = some (bv u)) :
    ∃ A' c'', Value.slice (some ⟨kb, off + n, none⟩) (b.length - j - n) (c' - n) = .slice A' (b.length - (j + n)) c'' ∧ b.length - (j + n) ≤ c'' ∧ (j + n < b.length → ∃ k off', A' = some ⟨k, off', none⟩ ∧ k ≠ g ∧ k < w.heap.size ∧ ∀ (i : Nat) (u : UInt8), (b.drop (j + n))[i]? = some u → w.cell? ⟨k, off' + i, none⟩ = some (bv u)) := by
  refine ⟨_, c' - n, by rw [Nat.sub_sub], by omega, fun _ => ⟨kb, off + n, rfl, hkg, hkw, fun i u hu => ?_⟩⟩
  rw [Nat.add_assoc]
  refine hcell (n + i) u ?_
  rw [List.getElem?_drop] at hu ⊢
  rw [← hu]
  congr 1
  omega
theorem slice_last {w : World} {g j n c' : Nat} {X : Option Addr} {b : List UInt8} (hn : n ≤ b.length - j) (hc : b.length - j ≤ c') (hc2 : c' = n) :
    ∃ A' c'', Value.slice X (b.length - j - n) 0 = .slice A' (b.length - (j + n)) c'' ∧ b.length - (j + n) ≤ c'' ∧ (j + n < b.length → ∃ k off', A' = some ⟨k, off', none⟩ ∧ k ≠ g ∧ k < w.heap.size ∧ ∀ (i : Nat) (u : UInt8), (b.drop (j + n))[i]? = some u → w.cell? ⟨k, off' + i, none⟩ = some (bv u)) :=
  ⟨X, 0, by rw [Nat.sub_sub], by omega, fun h => absurd h (by omega)⟩
/-- The bytes of a slice, as the loop has them. -/
def Rest (w : World) (g : Nat) (v : Value) (b : List UInt8) : Prop :=
  ∃ A c, v = .slice A b.length c ∧ b.length ≤ c ∧ (b ≠ [] → ∃ k off, A = some ⟨k, off, none⟩ ∧ k ≠ g ∧ k < w.heap.size ∧ ∀ (i : Nat) (u : UInt8), b[i]? = some u → w.cell? ⟨k, off + i, none⟩ = some (bv u))
def lenOf : Value → Nat
  | .slice _ n _ => n
  | _ => 0
set_option maxRecDepth 100000 in
set_option maxHeartbeats 1000000 in
theorem Write_any {w : World} {g : Nat} {r s : L} {l b : List UInt8} {v : Value} (hr : Poly.Fit r) (h : MacAt w g r s l) (hb : Rest w g v b) (hsz : l.length + b.length < 4611686018427387904) :
    Calls Try.prog 33 #[.pointer (some ⟨g, 0, none⟩), v] w fun e w1 => e = .returned (.int .i64 0) ∧ MacAt w1 g r s (l ++ b) ∧ Ev.Keep ⟨w, fun k => k = g⟩ w1 := by
  obtain ⟨A, c, rfl, hc, hcs⟩ := hb
  have H := Lib.hid h
  have Hcs := Lib.hid hcs
  obtain ⟨rest, hrl, hrest, hrow⟩ := h
  have Hrow := Lib.hid hrow
  clear hrow hcs
  have hglt : g < w.heap.size := Hrow.out.lt
  go_enter Try.func33, Try.ntmps33
  go_wp2_with (first
    | (go_at_call 48; refine (valid_any Hrow.out).mono ?_; rintro e w' ⟨rfl, rfl⟩)
    | fail)
  clear Hrow hrest hrl rest
  go_loopw [1] (fun vv wr => ∃ j : Nat, j ≤ b.length ∧ (∃ A' c', vv = .slice A' (b.length - j) c' ∧ b.length - j ≤ c' ∧ (j < b.length → ∃ k off, A' = some ⟨k, off, none⟩ ∧ k ≠ g ∧ k < w.heap.size ∧ ∀ (i : Nat) (u : UInt8), (b.drop j)[i]? = some u → w.cell? ⟨k, off + i, none⟩ = some (bv u))) ∧ MacAt wr g r s (l ++ b.take j) ∧ Ev.Keep ⟨w, fun k => k = g⟩ wr) (fun vv _ => lenOf vv)
  case atStart =>
    refine ⟨0, Nat.zero_le _, ⟨A, c, rfl, hc, fun hj => ?_⟩, by simpa using H.out, ⟨rfl, rfl, rfl, Nat.le_refl _, fun _ _ => rfl⟩⟩
    exact Hcs.out (by intro h; subst h; simp at hj)
  case round =>
    obtain ⟨j, hj, ⟨A', c', rfl, hc', hcl⟩, hmac, hkeep⟩ := hrel
    by_cases hjb : j < b.length
    · obtain ⟨kb, off, rfl, hkg, hkw, hcell⟩ := hcl hjb
      obtain ⟨rest', hrl, hrest, hrow⟩ := hmac
      obtain ⟨l', hl'⟩ : ∃ l', l ++ b.take j = l' := ⟨_, rfl⟩
      rw [hl'] at hrest hrow
      have hlen' : l'.length = l.length + j := by rw [← hl', List.length_append, List.length_take]; omega
      obtain ⟨S, hS⟩ : ∃ S, sumL r l' = S := ⟨_, rfl⟩
      obtain ⟨sz, hszl⟩ : ∃ sz, l'.length = sz := ⟨_, rfl⟩
      rw [hS, hszl] at hrow
      obtain ⟨k16, hk⟩ : ∃ k16, sz % 16 = k16 := ⟨_, rfl⟩
      have hk16 : (sz : Int) % 16 = (k16 : Int) := by omega
      have hk16' : k16 < 16 := by omega
      have hk16i : (k16 : Int) ≤ 16 := by omega
      have hk16n : ¬ (16 : Int) = (k16 : Int) := by omega
      have hk16m : ¬ 16 = k16 := by omega
      have hjl : 0 < b.length - j := Nat.sub_pos_of_lt hjb
      have hjl' : (0 : Int) < ((b.length - j : Nat) : Int) := by omega
      have HM := Lib.hid hrow
      have HRl := Lib.hid hrl
      have Hrest := Lib.hid hrest
      have Hcell := Lib.hid hcell
      have Hkeep := Lib.hid hkeep
      have HS := Lib.hid hS
      have Hszl := Lib.hid hszl
      have Hl' := Lib.hid hl'
      have Hlen := Lib.hid hlen'
      have Hk := Lib.hid hk
      clear hcl hrow hrl hrest hcell hkeep hS hszl hl' hlen' hk H Hcs
      go_wp2_with fail
      refine Tail.marksAt mixed 10 Grew [By.is (.pointer (some ⟨g, 0, none⟩)),
        By.is (.pointer (some ⟨g, 0, none⟩)),
        By.is (.pointer (some ⟨g, 16, none⟩)),
        By.is (.pointer (some ⟨g, 0, none⟩)),
        By.is (.pointer (some ⟨g, 0, none⟩)),
        By.is (.pointer (some ⟨g, 32, none⟩)),
        By.is (.int .i64 (sz : Int)),
        By.is (.int .i64 (k16 : Int)),
        By.is (.slice (some ⟨g, 16 + k16, none⟩) (16 - k16) (16 - k16)),
        By.is (.slice (some ⟨kb, off, none⟩) (b.length - j) c')]
        (Ev.masks _ []) (Nat.zero_lt_succ _) (by kernel_rfl) (by kernel_rfl) rfl Grew.refl Grew.trans ⟨?_, ?_, ?_, ?_, ?_, ?_, ?_, ?_, ?_, ?_, trivial⟩ ?_
      · intro a w ht hs hg -- 12
        have h0 := By.same_get hs 0 (by decide) (by kernel_rfl)
        refine By.yes rfl ?_
        clear hs hg
        go_simp
        exact ⟨_, rfl, Grew.refl _, rfl⟩
      · intro a w ht hs hg -- 13
        have h12 : a.tmps.getD 12 undef = _ := By.given_get hg 0 rfl rfl (by kernel_rfl)
        refine By.yes rfl ?_
        clear hs hg
        go_simp
        exact ⟨_, rfl, Grew.refl _, rfl⟩
      · intro a w ht hs hg -- 14
        have h13 : a.tmps.getD 13 undef = _ := By.given_get hg 1 rfl rfl (by kernel_rfl)
        refine By.yes rfl ?_
        clear hs hg
        go_simp
        exact ⟨_, rfl, Grew.refl _, rfl⟩
      · intro a w ht hs hg -- 15
        have h0 := By.same_get hs 0 (by decide) (by kernel_rfl)
        refine By.yes rfl ?_
        clear hs hg
        go_simp
        exact ⟨_, rfl, Grew.refl _, rfl⟩
      · intro a w ht hs hg -- 16
        have h15 : a.tmps.getD 15 undef = _ := By.given_get hg 3 rfl rfl (by kernel_rfl)
        refine By.yes rfl ?_
        clear hs hg
        go_simp
        exact ⟨_, rfl, Grew.refl _, rfl⟩
      · intro a w ht hs hg -- 17
        have h16 : a.tmps.getD 16 undef = _ := By.given_get hg 4 rfl rfl (by kernel_rfl)
        refine By.yes rfl ?_
        clear hs hg
        go_simp
        exact ⟨_, rfl, Grew.refl _, rfl⟩
      · intro a w ht hs hg -- 18
        have h17 : a.tmps.getD 17 undef = _ := By.given_get hg 5 rfl rfl (by kernel_rfl)
        refine By.yes rfl ?_
        clear hs hg
        have hcell := (Row.below (w := wr.drew) HM.out ht HM.out.lt).cell (mac_size r s S rest' sz HRl.out)
        go_simp
        exact ⟨_, rfl, Grew.refl _, rfl⟩
      · intro a w ht hs hg -- 19
        have h18 : a.tmps.getD 18 undef = _ := By.given_get hg 6 rfl rfl (by kernel_rfl)
        refine By.yes rfl ?_
        clear hs hg
        go_simp
        exact ⟨_, rfl, Grew.refl _, by rw [rem16, Hk.out]; rfl⟩
      · intro a w ht hs hg -- 20
        have h14 : a.tmps.getD 14 undef = _ := By.given_get hg 2 rfl rfl (by kernel_rfl)
        have h19 : a.tmps.getD 19 undef = _ := By.given_get hg 7 rfl rfl (by kernel_rfl)
        refine By.yes rfl ?_
        clear hs hg
        go_simp
        exact ⟨_, rfl, Grew.refl _, rfl⟩
      · intro a w ht hs hg -- 21
        have h1 := By.same_get hs 1 (by decide) (by kernel_rfl)
        refine By.yes rfl ?_
        clear hs hg
        go_simp
        exact ⟨_, rfl, Grew.refl _, rfl⟩
      refine By.ends_is (By.ends_is (By.ends_is (By.ends_is (By.ends_is (By.ends_is (By.ends_is (By.ends_is (By.ends_is (By.ends_is (By.ends_nil fun w4 hw4 => ?_))))))))))
      simp only [Act.put, List.setIfInBounds_toArray, List.set_cons_succ, List.set_cons_zero]
      simp only [List.drop_succ_cons, List.drop_zero]
      obtain ⟨p, hp⟩ : ∃ p, (b.drop j).take (16 - k16) = p := ⟨_, rfl⟩
      have hpl : p.length = Nat.min (b.length - j) (16 - k16) := by rw [← hp, List.length_take, List.length_drop]; exact Nat.min_comm _ _
      have hpi : ∀ (i : Nat) (u : UInt8), p[i]? = some u → (b.drop j)[i]? = some u := by
        intro i u hu
        rw [← hp, List.getElem?_take] at hu
        split at hu
        · exact hu
        · cases hu
      have hM4 := Row.below (w := wr.drew) HM.out hw4 HM.out.lt
      have hp1 : k16 + p.length ≤ 16 := by
        have : p.length ≤ 16 - k16 := by rw [hpl]; exact Nat.min_le_right _ _
        omega
      have hp2 : p.length ≤ b.length - j := by rw [hpl]; exact Nat.min_le_left _ _
      have hp0 : 0 < p.length := by rw [hpl]; exact Nat.lt_min.2 ⟨hjl, by omega⟩
      have Hp := Lib.hid hp
      have Hpl := Lib.hid hpl
      have Hpi := Lib.hid hpi
      have HM4 := Lib.hid hM4
      have Hw4 := Lib.hid hw4
      clear hp hpl hpi hM4 hw4
      have hj8 : sz + p.length = l.length + (j + p.length) := by rw [← Hszl.out, Hlen.out]; omega
      have hs1 : IntKind.i64.wrap ((sz : Int) + (p.length : Int)) = (sz : Int) + (p.length : Int) := by
        have : (sz : Int) + (p.length : Int) < 4611686018427387904 := by omega
        unfold IntKind.wrap
        simp [IntKind.bits, IntKind.signed]
        omega
      have hs2 : (p.length : Int) ≤ ((b.length - j : Nat) : Int) := by omega
      have hs3 : (p.length : Int) ≤ (c' : Int) := by omega
      have hs4 : ((b.length - j : Nat) : Int) ≤ (c' : Int) := by omega
      have Hj8 := Lib.hid hj8
      have Hsz := Lib.hid hsz
      clear hj8 hsz
      by_cases hcp : c' = p.length
      · have hcp1 : (c' : Int) = (p.length : Int) := by omega
        by_cases hz : (sz + p.length) % 16 = 0
        · have hz1 : ((sz : Int) + (p.length : Int)) % 16 = 0 := by omega
          go_wp2_with (first
            | (refine wpList_copy_keep rfl (.tmp 20) (.tmp 21) 34 34 rfl 5 (by kernel_rfl) (by kernel_rfl) rfl rfl HM4.out (p.map bv) (by rw [List.length_map]; exact Hpl.out) (copy_src Hw4.out Hkeep.out hkg hkw Hcell.out Hpi.out) (by rw [macCells_length _ _ _ _ _ HRl.out, List.length_map]; have := hp1; omega) (bytes1 p) ?_
               intro w5 hG5 hB5
               have HM5 := Lib.hid (row_copied HRl.out hp1 hG5)
               have hcell5 := HM5.out.cell (mac_size r s S (splice rest' k16 p) sz (rest_len HRl.out hp1))
               have hfr5 := frozen_row HM5.out 32
               have HM6 := Lib.hid ((HM5.out.set 32 (.int .i64 ((sz + p.length : Nat) : Int))).same (mac_set (rest_len HRl.out hp1)).symm)
               have HB5 := Lib.hid (keep_on Hkeep.out Hw4.out hB5)
               clear hG5 hB5)
            | fail)
          obtain ⟨wz, hwz⟩ : ∃ wz, w5.setCell ⟨g, 32, none⟩ (.int .i64 ((sz : Int) + (p.length : Int))) = wz := ⟨_, rfl⟩
          have hKz : Ev.Keep ⟨w, fun k => k = g⟩ wz := hwz ▸ HB5.out.setCell (.inr rfl) _
          obtain ⟨restn, hrn⟩ : ∃ restn, splice rest' k16 p = restn := ⟨_, rfl⟩
          have hrnl : restn.length = 16 := hrn ▸ rest_len HRl.out hp1
          have hMz : Row wz g (macCells r s S restn (sz + p.length)) 73 := by rw [← hrn, ← hwz]; exact HM6.out
          have hSl : Poly.Loose S := HS.out ▸ sumN_loose hr _ _
          have hbz : ∀ w', Grew wz.drew w' → Bs w' w'.heap.size (.slice (some ⟨g, 16, none⟩) 16 16) restn := by
            intro w' hw'
            have hlt := (Row.below (w := wz.drew) hMz hw' hMz.lt).lt
            have := (mac_bs hrnl (Row.below (w := wz.drew) hMz hw' hMz.lt))
            exact this
          have HKz := Lib.hid hKz
          have HRn := Lib.hid hrnl
          have HMz := Lib.hid hMz
          have HSl := Lib.hid hSl
          have HBz := Lib.hid hbz
          have Hrn := Lib.hid hrn
          have Hlz := Lib.hid (macCells_length r s S restn (sz + p.length) hrnl)
          rw [hwz]
          clear hwz hKz hrnl hMz hSl hbz hrn HM5 HM6 HB5 hcell5 hfr5
          refine Tail.marksAt mixed 14 Grew [By.is (.pointer (some ⟨g, 0, none⟩)),
            By.is (.pointer (some ⟨g, 0, none⟩)),
            By.is (.pointer (some ⟨g, 0, none⟩)),
            By.is (.pointer (some ⟨g, 11, none⟩)),
            By.is (lv S),
            By.is (.pointer (some ⟨g, 0, none⟩)),
            By.is (.pointer (some ⟨g, 0, none⟩)),
            By.is (.pointer (some ⟨g, 1, none⟩)),
            By.is (lv r),
            By.is (.pointer (some ⟨g, 0, none⟩)),
            By.is (.pointer (some ⟨g, 0, none⟩)),
            By.is (.pointer (some ⟨g, 16, none⟩)),
            By.is (.slice (some ⟨g, 16, none⟩) 16 16),
            By.is (lv (Poly.next S r (Poly.le restn + 256 ^ 16)))]
            (Ev.masks _ []) (Nat.zero_lt_succ _) (by kernel_rfl) (by kernel_rfl) rfl Grew.refl Grew.trans ⟨?_, ?_, ?_, ?_, ?_, ?_, ?_, ?_, ?_, ?_, ?_, ?_, ?_, ?_, trivial⟩ ?_
          · intro a w ht hs hg -- 40
            have h0 := By.same_get hs 0 (by decide) (by kernel_rfl)
            refine By.yes rfl ?_
            clear hs hg
            go_simp
            exact ⟨_, rfl, Grew.refl _, rfl⟩
          · intro a w ht hs hg -- 41
            have h0 := By.same_get hs 0 (by decide) (by kernel_rfl)
            refine By.yes rfl ?_
            clear hs hg
            go_simp
            exact ⟨_, rfl, Grew.refl _, rfl⟩
          · intro a w ht hs hg -- 42
            have h41 : a.tmps.getD 41 undef = _ := By.given_get hg 1 rfl rfl (by kernel_rfl)
            refine By.yes rfl ?_
            clear hs hg
            go_simp
            exact ⟨_, rfl, Grew.refl _, rfl⟩
          · intro a w ht hs hg -- 43
            have h42 : a.tmps.getD 42 undef = _ := By.given_get hg 2 rfl rfl (by kernel_rfl)
            refine By.yes rfl ?_
            clear hs hg
            go_simp
            exact ⟨_, rfl, Grew.refl _, rfl⟩
          · intro a w ht hs hg -- 44
            have h43 : a.tmps.getD 43 undef = _ := By.given_get hg 3 rfl rfl (by kernel_rfl)
            refine By.yes rfl ?_
            clear hs hg
            refine wp_loadSub (n := 5) 70 _ rfl h43 (Row.below (w := wz.drew) HMz.out ht HMz.out.lt) Try.underlying70 rfl (by kernel_rfl) (by rw [Hlz.out]; decide) ?_
            rw [mac_sum]
            exact ⟨_, rfl, Grew.refl _, rfl⟩
          · intro a w ht hs hg -- 45
            have h0 := By.same_get hs 0 (by decide) (by kernel_rfl)
            refine By.yes rfl ?_
            clear hs hg
            go_simp
            exact ⟨_, rfl, Grew.refl _, rfl⟩
          · intro a w ht hs hg -- 46
            have h45 : a.tmps.getD 45 undef = _ := By.given_get hg 5 rfl rfl (by kernel_rfl)
            refine By.yes rfl ?_
            clear hs hg
            go_simp
            exact ⟨_, rfl, Grew.refl _, rfl⟩
          · intro a w ht hs hg -- 47
            have h46 : a.tmps.getD 46 undef = _ := By.given_get hg 6 rfl rfl (by kernel_rfl)
            refine By.yes rfl ?_
            clear hs hg
            go_simp
            exact ⟨_, rfl, Grew.refl _, rfl⟩
          · intro a w ht hs hg -- 48
            have h47 : a.tmps.getD 47 undef = _ := By.given_get hg 7 rfl rfl (by kernel_rfl)
            refine By.yes rfl ?_
            clear hs hg
            refine wp_loadSub (n := 5) 70 _ rfl h47 (Row.below (w := wz.drew) HMz.out ht HMz.out.lt) Try.underlying70 rfl (by kernel_rfl) (by rw [Hlz.out]; decide) ?_
            rw [mac_r]
            exact ⟨_, rfl, Grew.refl _, rfl⟩
          · intro a w ht hs hg -- 49
            have h0 := By.same_get hs 0 (by decide) (by kernel_rfl)
            refine By.yes rfl ?_
            clear hs hg
            go_simp
            exact ⟨_, rfl, Grew.refl _, rfl⟩
          · intro a w ht hs hg -- 50
            have h49 : a.tmps.getD 49 undef = _ := By.given_get hg 9 rfl rfl (by kernel_rfl)
            refine By.yes rfl ?_
            clear hs hg
            go_simp
            exact ⟨_, rfl, Grew.refl _, rfl⟩
          · intro a w ht hs hg -- 51
            have h50 : a.tmps.getD 50 undef = _ := By.given_get hg 10 rfl rfl (by kernel_rfl)
            refine By.yes rfl ?_
            clear hs hg
            go_simp
            exact ⟨_, rfl, Grew.refl _, rfl⟩
          · intro a w ht hs hg -- 52
            have h51 : a.tmps.getD 51 undef = _ := By.given_get hg 11 rfl rfl (by kernel_rfl)
            refine By.yes rfl ?_
            clear hs hg
            go_simp
            exact ⟨_, rfl, Grew.refl _, rfl⟩
          · intro a w ht hs hg -- 53
            have h44 : a.tmps.getD 44 undef = _ := By.given_get hg 4 rfl rfl (by kernel_rfl)
            have h48 : a.tmps.getD 48 undef = _ := By.given_get hg 8 rfl rfl (by kernel_rfl)
            have h52 : a.tmps.getD 52 undef = _ := By.given_get hg 12 rfl rfl (by kernel_rfl)
            refine By.yes rfl ?_
            clear hs hg
            have hb := HBz.out w ht
            go_simp
            have hn := next_any HSl.out hr _ restn (by rw [HRn.out]; decide) (by rw [HRn.out]; decide) w hb
            rw [HRn.out] at hn
            refine hn.mono ?_
            rintro e w' ⟨rfl, hb2⟩
            exact ⟨_, rfl, hb2, rfl⟩
          refine By.ends_is (By.ends_is (By.ends_is (By.ends_is (By.ends_is (By.ends_is (By.ends_is (By.ends_is (By.ends_is (By.ends_is (By.ends_is (By.ends_is (By.ends_is (By.ends_is (By.ends_nil fun w8 hw8 => ?_))))))))))))))
          simp only [Act.put, List.setIfInBounds_toArray, List.set_cons_succ, List.set_cons_zero]
          simp only [List.drop_succ_cons, List.drop_zero]
          have HM8 := Lib.hid (Row.below (w := wz.drew) HMz.out hw8 HMz.out.lt)
          have Hw8 := Lib.hid hw8
          clear hw8
          obtain ⟨X, hX⟩ : ∃ X, Poly.next S r (Poly.le restn + 256 ^ 16) = X := ⟨_, rfl⟩
          have HX := Lib.hid hX
          rw [hX]
          clear hX
          go_wp2_with (first
            | (refine wpList_storeSub (n := 5) rfl 70 _ _ rfl rfl rfl (cs := lc X) (old := macCells r s S restn (sz + p.length)) HM8.out (by kernel_rfl) rfl (by rw [Hlz.out]; exact (by decide : 16 ≤ 33)) (lc_one X) ?_
               simp only [Act.put])
            | fail)
          go_roundw
          case rel =>
            refine ⟨j + p.length, by omega, slice_last hp2 hc' hcp, ?_, keep_on HKz.out Hw8.out (keep_setRow _)⟩
            rw [joined Hl'.out Hp.out]
            exact mac_after_fill HRl.out Hrest.out HS.out Hszl.out Hk.out (by have := hz; have := Hk.out; omega) (by rw [Hrn.out, HX.out]; exact (HM8.out.setRow _).same mac_sum_store.symm)
          case measure => simp [lenOf]; omega
        · obtain ⟨m16, hm16⟩ : ∃ m16, (sz + p.length) % 16 = m16 := ⟨_, rfl⟩
          have hz1 : ((sz : Int) + (p.length : Int)) % 16 = (m16 : Int) := by omega
          have hz2 : ¬ (m16 : Int) = 0 := by omega
          have hz3 : ¬ m16 = 0 := by omega
          have Hm16 := Lib.hid hm16
          have Hz := Lib.hid hz
          clear hm16 hz
          go_wp2_with (first
            | (refine wpList_copy_keep rfl (.tmp 20) (.tmp 21) 34 34 rfl 5 (by kernel_rfl) (by kernel_rfl) rfl rfl HM4.out (p.map bv) (by rw [List.length_map]; exact Hpl.out) (copy_src Hw4.out Hkeep.out hkg hkw Hcell.out Hpi.out) (by rw [macCells_length _ _ _ _ _ HRl.out, List.length_map]; have := hp1; omega) (bytes1 p) ?_
               intro w5 hG5 hB5
               have HM5 := Lib.hid (row_copied HRl.out hp1 hG5)
               have hcell5 := HM5.out.cell (mac_size r s S (splice rest' k16 p) sz (rest_len HRl.out hp1))
               have hfr5 := frozen_row HM5.out 32
               have HM6 := Lib.hid ((HM5.out.set 32 (.int .i64 ((sz + p.length : Nat) : Int))).same (mac_set (rest_len HRl.out hp1)).symm)
               have HB5 := Lib.hid (keep_on Hkeep.out Hw4.out hB5)
               clear hG5 hB5)
            | fail)
          go_roundw
          case rel =>
            refine ⟨j + p.length, by omega, slice_last hp2 hc' hcp, ?_, HB5.out.setCell (.inr rfl) _⟩
            rw [joined Hl'.out Hp.out]
            exact mac_after_take HRl.out Hrest.out HS.out Hszl.out Hk.out (by have := Hz.out; have := Hk.out; omega) HM6.out
          case measure => simp [lenOf]; omega
      · have hcp1 : ¬ (c' : Int) = (p.length : Int) := by omega
        by_cases hz : (sz + p.length) % 16 = 0
        · have hz1 : ((sz : Int) + (p.length : Int)) % 16 = 0 := by omega
          go_wp2_with (first
            | (refine wpList_copy_keep rfl (.tmp 20) (.tmp 21) 34 34 rfl 5 (by kernel_rfl) (by kernel_rfl) rfl rfl HM4.out (p.map bv) (by rw [List.length_map]; exact Hpl.out) (copy_src Hw4.out Hkeep.out hkg hkw Hcell.out Hpi.out) (by rw [macCells_length _ _ _ _ _ HRl.out, List.length_map]; have := hp1; omega) (bytes1 p) ?_
               intro w5 hG5 hB5
               have HM5 := Lib.hid (row_copied HRl.out hp1 hG5)
               have hcell5 := HM5.out.cell (mac_size r s S (splice rest' k16 p) sz (rest_len HRl.out hp1))
               have hfr5 := frozen_row HM5.out 32
               have HM6 := Lib.hid ((HM5.out.set 32 (.int .i64 ((sz + p.length : Nat) : Int))).same (mac_set (rest_len HRl.out hp1)).symm)
               have HB5 := Lib.hid (keep_on Hkeep.out Hw4.out hB5)
               clear hG5 hB5)
            | fail)
          obtain ⟨wz, hwz⟩ : ∃ wz, w5.setCell ⟨g, 32, none⟩ (.int .i64 ((sz : Int) + (p.length : Int))) = wz := ⟨_, rfl⟩
          have hKz : Ev.Keep ⟨w, fun k => k = g⟩ wz := hwz ▸ HB5.out.setCell (.inr rfl) _
          obtain ⟨restn, hrn⟩ : ∃ restn, splice rest' k16 p = restn := ⟨_, rfl⟩
          have hrnl : restn.length = 16 := hrn ▸ rest_len HRl.out hp1
          have hMz : Row wz g (macCells r s S restn (sz + p.length)) 73 := by rw [← hrn, ← hwz]; exact HM6.out
          have hSl : Poly.Loose S := HS.out ▸ sumN_loose hr _ _
          have hbz : ∀ w', Grew wz.drew w' → Bs w' w'.heap.size (.slice (some ⟨g, 16, none⟩) 16 16) restn := by
            intro w' hw'
            have hlt := (Row.below (w := wz.drew) hMz hw' hMz.lt).lt
            have := (mac_bs hrnl (Row.below (w := wz.drew) hMz hw' hMz.lt))
            exact this
          have HKz := Lib.hid hKz
          have HRn := Lib.hid hrnl
          have HMz := Lib.hid hMz
          have HSl := Lib.hid hSl
          have HBz := Lib.hid hbz
          have Hrn := Lib.hid hrn
          have Hlz := Lib.hid (macCells_length r s S restn (sz + p.length) hrnl)
          rw [hwz]
          clear hwz hKz hrnl hMz hSl hbz hrn HM5 HM6 HB5 hcell5 hfr5
          refine Tail.marksAt mixed 14 Grew [By.is (.pointer (some ⟨g, 0, none⟩)),
            By.is (.pointer (some ⟨g, 0, none⟩)),
            By.is (.pointer (some ⟨g, 0, none⟩)),
            By.is (.pointer (some ⟨g, 11, none⟩)),
            By.is (lv S),
            By.is (.pointer (some ⟨g, 0, none⟩)),
            By.is (.pointer (some ⟨g, 0, none⟩)),
            By.is (.pointer (some ⟨g, 1, none⟩)),
            By.is (lv r),
            By.is (.pointer (some ⟨g, 0, none⟩)),
            By.is (.pointer (some ⟨g, 0, none⟩)),
            By.is (.pointer (some ⟨g, 16, none⟩)),
            By.is (.slice (some ⟨g, 16, none⟩) 16 16),
            By.is (lv (Poly.next S r (Poly.le restn + 256 ^ 16)))]
            (Ev.masks _ []) (Nat.zero_lt_succ _) (by kernel_rfl) (by kernel_rfl) rfl Grew.refl Grew.trans ⟨?_, ?_, ?_, ?_, ?_, ?_, ?_, ?_, ?_, ?_, ?_, ?_, ?_, ?_, trivial⟩ ?_
          · intro a w ht hs hg -- 40
            have h0 := By.same_get hs 0 (by decide) (by kernel_rfl)
            refine By.yes rfl ?_
            clear hs hg
            go_simp
            exact ⟨_, rfl, Grew.refl _, rfl⟩
          · intro a w ht hs hg -- 41
            have h0 := By.same_get hs 0 (by decide) (by kernel_rfl)
            refine By.yes rfl ?_
            clear hs hg
            go_simp
            exact ⟨_, rfl, Grew.refl _, rfl⟩
          · intro a w ht hs hg -- 42
            have h41 : a.tmps.getD 41 undef = _ := By.given_get hg 1 rfl rfl (by kernel_rfl)
            refine By.yes rfl ?_
            clear hs hg
            go_simp
            exact ⟨_, rfl, Grew.refl _, rfl⟩
          · intro a w ht hs hg -- 43
            have h42 : a.tmps.getD 42 undef = _ := By.given_get hg 2 rfl rfl (by kernel_rfl)
            refine By.yes rfl ?_
            clear hs hg
            go_simp
            exact ⟨_, rfl, Grew.refl _, rfl⟩
          · intro a w ht hs hg -- 44
            have h43 : a.tmps.getD 43 undef = _ := By.given_get hg 3 rfl rfl (by kernel_rfl)
            refine By.yes rfl ?_
            clear hs hg
            refine wp_loadSub (n := 5) 70 _ rfl h43 (Row.below (w := wz.drew) HMz.out ht HMz.out.lt) Try.underlying70 rfl (by kernel_rfl) (by rw [Hlz.out]; decide) ?_
            rw [mac_sum]
            exact ⟨_, rfl, Grew.refl _, rfl⟩
          · intro a w ht hs hg -- 45
            have h0 := By.same_get hs 0 (by decide) (by kernel_rfl)
            refine By.yes rfl ?_
            clear hs hg
            go_simp
            exact ⟨_, rfl, Grew.refl _, rfl⟩
          · intro a w ht hs hg -- 46
            have h45 : a.tmps.getD 45 undef = _ := By.given_get hg 5 rfl rfl (by kernel_rfl)
            refine By.yes rfl ?_
            clear hs hg
            go_simp
            exact ⟨_, rfl, Grew.refl _, rfl⟩
          · intro a w ht hs hg -- 47
            have h46 : a.tmps.getD 46 undef = _ := By.given_get hg 6 rfl rfl (by kernel_rfl)
            refine By.yes rfl ?_
            clear hs hg
            go_simp
            exact ⟨_, rfl, Grew.refl _, rfl⟩
          · intro a w ht hs hg -- 48
            have h47 : a.tmps.getD 47 undef = _ := By.given_get hg 7 rfl rfl (by kernel_rfl)
            refine By.yes rfl ?_
            clear hs hg
            refine wp_loadSub (n := 5) 70 _ rfl h47 (Row.below (w := wz.drew) HMz.out ht HMz.out.lt) Try.underlying70 rfl (by kernel_rfl) (by rw [Hlz.out]; decide) ?_
            rw [mac_r]
            exact ⟨_, rfl, Grew.refl _, rfl⟩
          · intro a w ht hs hg -- 49
            have h0 := By.same_get hs 0 (by decide) (by kernel_rfl)
            refine By.yes rfl ?_
            clear hs hg
            go_simp
            exact ⟨_, rfl, Grew.refl _, rfl⟩
          · intro a w ht hs hg -- 50
            have h49 : a.tmps.getD 49 undef = _ := By.given_get hg 9 rfl rfl (by kernel_rfl)
            refine By.yes rfl ?_
            clear hs hg
            go_simp
            exact ⟨_, rfl, Grew.refl _, rfl⟩
          · intro a w ht hs hg -- 51
            have h50 : a.tmps.getD 50 undef = _ := By.given_get hg 10 rfl rfl (by kernel_rfl)
            refine By.yes rfl ?_
            clear hs hg
            go_simp
            exact ⟨_, rfl, Grew.refl _, rfl⟩
          · intro a w ht hs hg -- 52
            have h51 : a.tmps.getD 51 undef = _ := By.given_get hg 11 rfl rfl (by kernel_rfl)
            refine By.yes rfl ?_
            clear hs hg
            go_simp
            exact ⟨_, rfl, Grew.refl _, rfl⟩
          · intro a w ht hs hg -- 53
            have h44 : a.tmps.getD 44 undef = _ := By.given_get hg 4 rfl rfl (by kernel_rfl)
            have h48 : a.tmps.getD 48 undef = _ := By.given_get hg 8 rfl rfl (by kernel_rfl)
            have h52 : a.tmps.getD 52 undef = _ := By.given_get hg 12 rfl rfl (by kernel_rfl)
            refine By.yes rfl ?_
            clear hs hg
            have hb := HBz.out w ht
            go_simp
            have hn := next_any HSl.out hr _ restn (by rw [HRn.out]; decide) (by rw [HRn.out]; decide) w hb
            rw [HRn.out] at hn
            refine hn.mono ?_
            rintro e w' ⟨rfl, hb2⟩
            exact ⟨_, rfl, hb2, rfl⟩
          refine By.ends_is (By.ends_is (By.ends_is (By.ends_is (By.ends_is (By.ends_is (By.ends_is (By.ends_is (By.ends_is (By.ends_is (By.ends_is (By.ends_is (By.ends_is (By.ends_is (By.ends_nil fun w8 hw8 => ?_))))))))))))))
          simp only [Act.put, List.setIfInBounds_toArray, List.set_cons_succ, List.set_cons_zero]
          simp only [List.drop_succ_cons, List.drop_zero]
          have HM8 := Lib.hid (Row.below (w := wz.drew) HMz.out hw8 HMz.out.lt)
          have Hw8 := Lib.hid hw8
          clear hw8
          obtain ⟨X, hX⟩ : ∃ X, Poly.next S r (Poly.le restn + 256 ^ 16) = X := ⟨_, rfl⟩
          have HX := Lib.hid hX
          rw [hX]
          clear hX
          go_wp2_with (first
            | (refine wpList_storeSub (n := 5) rfl 70 _ _ rfl rfl rfl (cs := lc X) (old := macCells r s S restn (sz + p.length)) HM8.out (by kernel_rfl) rfl (by rw [Hlz.out]; exact (by decide : 16 ≤ 33)) (lc_one X) ?_
               simp only [Act.put])
            | fail)
          go_roundw
          case rel =>
            refine ⟨j + p.length, by omega, slice_next hkg hkw hp2 hc' hcp Hcell.out, ?_, keep_on HKz.out Hw8.out (keep_setRow _)⟩
            rw [joined Hl'.out Hp.out]
            exact mac_after_fill HRl.out Hrest.out HS.out Hszl.out Hk.out (by have := hz; have := Hk.out; omega) (by rw [Hrn.out, HX.out]; exact (HM8.out.setRow _).same mac_sum_store.symm)
          case measure => simp [lenOf]; omega
        · obtain ⟨m16, hm16⟩ : ∃ m16, (sz + p.length) % 16 = m16 := ⟨_, rfl⟩
          have hz1 : ((sz : Int) + (p.length : Int)) % 16 = (m16 : Int) := by omega
          have hz2 : ¬ (m16 : Int) = 0 := by omega
          have hz3 : ¬ m16 = 0 := by omega
          have Hm16 := Lib.hid hm16
          have Hz := Lib.hid hz
          clear hm16 hz
          go_wp2_with (first
            | (refine wpList_copy_keep rfl (.tmp 20) (.tmp 21) 34 34 rfl 5 (by kernel_rfl) (by kernel_rfl) rfl rfl HM4.out (p.map bv) (by rw [List.length_map]; exact Hpl.out) (copy_src Hw4.out Hkeep.out hkg hkw Hcell.out Hpi.out) (by rw [macCells_length _ _ _ _ _ HRl.out, List.length_map]; have := hp1; omega) (bytes1 p) ?_
               intro w5 hG5 hB5
               have HM5 := Lib.hid (row_copied HRl.out hp1 hG5)
               have hcell5 := HM5.out.cell (mac_size r s S (splice rest' k16 p) sz (rest_len HRl.out hp1))
               have hfr5 := frozen_row HM5.out 32
               have HM6 := Lib.hid ((HM5.out.set 32 (.int .i64 ((sz + p.length : Nat) : Int))).same (mac_set (rest_len HRl.out hp1)).symm)
               have HB5 := Lib.hid (keep_on Hkeep.out Hw4.out hB5)
               clear hG5 hB5)
            | fail)
          go_roundw
          case rel =>
            refine ⟨j + p.length, by omega, slice_next hkg hkw hp2 hc' hcp Hcell.out, ?_, HB5.out.setCell (.inr rfl) _⟩
            rw [joined Hl'.out Hp.out]
            exact mac_after_take HRl.out Hrest.out HS.out Hszl.out Hk.out (by have := Hz.out; have := Hk.out; omega) HM6.out
          case measure => simp [lenOf]; omega
    · have hj2 : j = b.length := by omega
      subst hj2
      have Hmac := Lib.hid hmac
      have Hkeep := Lib.hid hkeep
      have hlen0 : ¬ (0 : Int) < ((b.length - b.length : Nat) : Int) := by omega
      have hlen1 : b.length - b.length = 0 := Nat.sub_self _
      clear hmac hkeep hcl
      go_wp2_with fail
      go_ret
      exact ⟨rfl, by have := Hmac.out; rwa [List.take_length] at this, Hkeep.out⟩
end Pol
end Go.Proofs.Ytpllbnioncjhaaa
