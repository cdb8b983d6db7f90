/- 'copy' of bytes into a row of zeros. -/
import Derived.Test.YtedmogacklbcmaaMem
import Derived.Test.YtedmogacklbcmaaRow
import Derived.Test.YtedmogacklbcmaaEvAll
import Derived.Laws.CopyOwn
import Derived.Deep.RegionLaw
namespace Go.Proofs.Ytedmogacklbcmaa.CpA
open Go.RowKit
theorem copy_keep {P : Program} {w : World} {ops : Array Oper} {rest : List Oper} {o : Oper} {a : Act} {Q : Exit → Act → World → Prop} (hgd : o.guard = none) (d s : Operand) (dT sT : TypeId)
    (ho : o.op = .call { callee := .builtin .copy, args := #[d, s], argTypes := #[dT, sT] }) (elem : TypeId) (hu : P.underlying dT = some (.slice elem)) (hsz : (P.info? elem).map (·.size) = some 1)
    {g off dLen dCap : Nat} {ad : Addr} {sLen sCap : Nat} (hd : a.eval d = .slice (some ⟨g, off, none⟩) dLen dCap) (hs : a.eval s = .slice (some ad) sLen sCap)
    {cur : List Value} {t : TypeId} (hg : Row w g cur t) (cs : List Value) (hn : cs.length = Nat.min sLen dLen)
    (hsrc : ∀ j v, cs[j]? = some v → w.cell? (ad.add j) = some v) (hfit : off + cs.length ≤ cur.length) (h1 : ∀ v ∈ cs, v.oneCell' = true)
    (h : ∀ w', Row w' g (splice cur off cs) t → Ev.Keep ⟨w, fun k => k = g⟩ w' → wpList P ops Q rest (a.put o.dst (goInt cs.length)) w') : wpList P ops Q (o :: rest) a w := by
  refine wpList_copy_own hgd d s dT sT ho elem hu hsz g off dLen dCap ad sLen sCap hd hs cur.toArray t hg cs hn hsrc (by simpa using hfit) h1 (h _ ?_ ⟨rfl, rfl, rfl, by simp [World.setRow], fun k hk => setRow_other w g k _ fun e => hk (.inr e)⟩)
  exact setRow_heap w g _ _ t _ hg
def zn (n : Nat) : List UInt8 := List.replicate n 0
def padTo (n : Nat) (l : List UInt8) : List UInt8 := l ++ List.replicate (n - l.length) 0
theorem padTo_length {n : Nat} {l : List UInt8} (h : l.length ≤ n) : (padTo n l).length = n := by simp [padTo]; omega
theorem padTo_full {n : Nat} {l : List UInt8} (h : l.length = n) : padTo n l = l := by simp [padTo, h]
theorem splice_pad (n : Nat) (l : List UInt8) (hl : l.length ≤ n) : splice ((zn n).map bv) 0 (l.map bv) = (padTo n l).map bv := by
  unfold splice padTo zn
  rw [List.take_zero, List.nil_append, Nat.zero_add, List.length_map, ← List.map_drop, List.drop_replicate, List.map_append]
theorem one_bytes (l : List UInt8) : ∀ v ∈ l.map bv, v.oneCell' = true := by
  intro v hv
  obtain ⟨u, _, rfl⟩ := List.mem_map.1 hv
  rfl
/-- 'copy' of at most n bytes into n zeros. -/
theorem wpList_copy_arr (n : Nat) {w : World} {ops : Array Oper} {rest : List Oper} {o : Oper} {a : Act} {Q : Exit → Act → World → Prop} (hgd : o.guard = none) (d s : Operand)
    (ho : o.op = .call { callee := .builtin .copy, args := #[d, s], argTypes := #[31, 31] }) {g B c2 : Nat} {y : Value} {l : List UInt8} {t : TypeId}
    (hd : a.eval d = .slice (some ⟨g, 0, none⟩) n c2) (hs : a.eval s = y) (hy : Bs w B y l) (hl : l.length ≤ n) (hg : Row w g ((zn n).map bv) t)
    (h : ∀ w', Row w' g ((padTo n l).map bv) t → Ev.Keep ⟨w, fun k => k = g⟩ w' → wpList Try.prog ops Q rest (a.put o.dst (goInt l.length)) w') : wpList Try.prog ops Q (o :: rest) a w := by
  obtain ⟨A, c, rfl, _, hcs⟩ := hy
  by_cases hne : l = []
  · subst hne
    refine wpList_copy_nothing hgd d s 31 31 ho 5 (by kernel_rfl) (by kernel_rfl) _ _ _ _ _ _ hd hs (by simp) (h w ?_ ⟨rfl, rfl, rfl, Nat.le_refl _, fun _ _ => rfl⟩)
    exact hg
  · obtain ⟨b, off, rfl, _, hcell⟩ := hcs hne
    refine copy_keep hgd d s 31 31 ho 5 (by kernel_rfl) (by kernel_rfl) hd hs hg (l.map bv) (by rw [List.length_map]; exact (Nat.min_eq_left hl).symm) ?_ (by rw [List.length_map]; simp [zn]; exact hl) (one_bytes _) ?_
    · intro j v hv
      rw [List.getElem?_map, Option.map_eq_some_iff] at hv
      obtain ⟨u, hu, rfl⟩ := hv
      rw [show (⟨b, off, none⟩ : Addr).add j = ⟨b, off + j, none⟩ by unfold Addr.add; split <;> simp_all]
      exact hcell j u hu
    · intro w' h1 h2
      rw [splice_pad n l hl] at h1
      rw [List.length_map]
      exact h w' h1 h2
set_option maxRecDepth 100000 in
/-- 'copy' into a row, as one step of a region that draws its order. -/
theorem step_copy_arr (n : Nat) {w : World} {ops : Array Oper} {o : Oper} {a : Act} {K : Act → World → Prop} {Q : Exit → Act → World → Prop} {E : Prop} (hgd : o.guard = none) (d s : Operand)
    (ho : o.op = .call { callee := .builtin .copy, args := #[d, s], argTypes := #[31, 31] }) {g B c2 : Nat} {y : Value} {l : List UInt8} {t : TypeId}
    (hd : a.eval d = .slice (some ⟨g, 0, none⟩) n c2) (hs : a.eval s = y) (hy : Bs w B y l) (hl : l.length ≤ n) (hg : Row w g ((zn n).map bv) t)
    (h : ∀ w', Row w' g ((padTo n l).map bv) t → Ev.Keep ⟨w, fun k => k = g⟩ w' → K (a.put o.dst (goInt l.length)) w') : if Region.wanted o (yielded ops a.tmps) = true then Oper.wp Try.prog o a w K Q else E := by
  have hw : Region.wanted o (yielded ops a.tmps) = true := by simp [Region.wanted, hgd]
  rw [if_pos hw]
  obtain ⟨A, c, rfl, _, hcs⟩ := hy
  by_cases hne : l = []
  · subst hne
    have hrun := run_copy_none (P := Try.prog) w 31 31 o.type 5 (some ⟨g, 0, none⟩) A n c2 0 c (by kernel_rfl) (by kernel_rfl) (by simp)
    unfold Oper.wp
    simp [execOp, ho, resolve, invoke, builtin, hd, hs, hrun, Result.andThen]
    exact h w hg ⟨rfl, rfl, rfl, Nat.le_refl _, fun _ _ => rfl⟩
  · obtain ⟨b, off, rfl, _, hcell⟩ := hcs hne
    have hsrc : ∀ j v, (l.map bv)[j]? = some v → w.cell? ((⟨b, off, none⟩ : Addr).add j) = some v := by
      intro j v hv
      rw [List.getElem?_map, Option.map_eq_some_iff] at hv
      obtain ⟨u, hu, rfl⟩ := hv
      rw [show (⟨b, off, none⟩ : Addr).add j = ⟨b, off + j, none⟩ by unfold Addr.add; split <;> simp_all]
      exact hcell j u hu
    have hrun := run_copy_row (P := Try.prog) w 31 31 o.type 5 g 0 n c2 ⟨b, off, none⟩ l.length c ((zn n).map bv).toArray t (l.map bv) (by kernel_rfl) (by kernel_rfl) hg (by rw [List.length_map]; exact (Nat.min_eq_left hl).symm) hsrc (by simp [zn]; exact hl) (one_bytes _)
    unfold Oper.wp
    simp [execOp, ho, resolve, invoke, builtin, hd, hs, hrun, Result.andThen]
    have hx := h (w.setRow g (splice ((zn n).map bv) 0 (l.map bv)).toArray) (by rw [← splice_pad n l hl]; exact setRow_heap w g _ _ t _ hg) ⟨rfl, rfl, rfl, by simp [World.setRow], fun k hk => setRow_other w g k _ fun e => hk (.inr e)⟩
    simp [splice] at hx
    exact hx
end Go.Proofs.Ytedmogacklbcmaa.CpA
