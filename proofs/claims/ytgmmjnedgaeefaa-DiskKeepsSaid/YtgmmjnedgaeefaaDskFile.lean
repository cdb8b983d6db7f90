/- disk: a file's own functions. -/
import Derived.Test.YtgmmjnedgaeefaaDskBase
import Derived.BigRegion
import Derived.Deep.RegionLaw
namespace Go.Proofs.Ytgmmjnedgaeefaa.Dsk
open Go.RowKit Go.Maps Go.Sort Go.Shelf
/-- A file's row and its bytes. -/
structure FRow (w : World) (g : Nat) (vs vf : Value) (F : Fil) : Prop where
  row : Row w g [vs, vf, .bool F.syn] 62
  safe : Own w 0 vs F.safe
  fresh : Own w 0 vf F.fresh
  lenS : F.safe.length ≤ 100000000
  lenF : F.fresh.length ≤ 100000000
  all : F.all.length ≤ 100000000
set_option maxRecDepth 100000 in
theorem fsize_at {w : World} {g : Nat} {vs vf : Value} {F : Fil} (h : FRow w g vs vf F) : Calls Try.prog 36 #[pv g] w fun e w' => e = .returned (.int .i64 (F.all.length : Int)) ∧ ∃ n, w' = w.drewN n := by
  obtain ⟨A1, n1, e1⟩ := h.safe.shape
  obtain ⟨A2, n2, e2⟩ := h.fresh.shape
  subst e1 e2
  have h1 : w.cell? ⟨g, 0, none⟩ = some (.slice A1 F.safe.length n1) := h.row.cell rfl
  have h2 : w.cell? ⟨g, 1, none⟩ = some (.slice A2 F.fresh.length n2) := h.row.cell rfl
  have h3 : wrap64 ((F.safe.length : Int) + F.fresh.length) = (F.all.length : Int) := by
    have := h.lenS
    have := h.lenF
    simp only [Fil.all, List.length_append]
    unfold wrap64
    omega
  unfold pv
  clear h
  go_enter Try.func36, Try.ntmps36
  go_wp2
  go_quiet (fail)
  rename_i nq
  go_wp2
  go_ret
  exact ⟨congrArg (fun x => Ending.returned (Value.int .i64 x)) h3, nq, rfl⟩
set_option maxRecDepth 100000 in
theorem lasts_at {w : World} {g : Nat} {vs vf : Value} {F : Fil} (h : FRow w g vs vf F) : Calls Try.prog 30 #[pv g] w fun e w' => e = .returned (.bool F.lasts) ∧ w = w' := by
  obtain ⟨A1, n1, e1⟩ := h.safe.shape
  subst e1
  have h1 : w.cell? ⟨g, 0, none⟩ = some (.slice A1 F.safe.length n1) := h.row.cell rfl
  have h2 : w.cell? ⟨g, 2, none⟩ = some (.bool F.syn) := h.row.cell rfl
  unfold pv
  clear h
  cases hs : F.syn with
  | true =>
    rw [hs] at h2
    go_enter Try.func30, Try.ntmps30
    go_wp2
    go_ret
    exact ⟨by simp [Fil.lasts, hs], rfl⟩
  | false =>
    rw [hs] at h2
    go_enter Try.func30, Try.ntmps30
    go_wp2
    go_ret
    exact ⟨by simp [Fil.lasts, hs], rfl⟩
/-- append of bytes onto a row of the call's own, as one step of a region that draws its order. -/
theorem step_app_bytes {w : World} {ops : Array Oper} {o : Oper} {a : Act} {K : Act → World → Prop} {Q : Exit → Act → World → Prop} {E : Prop} (hgd : o.guard = none) (s x : Operand)
    (ho : o.op = .call { callee := .builtin .append, args := #[s, x], argTypes := #[27, 27] }) {base B : Nat} {v y : Value} {l m : List UInt8} (hs : a.eval s = v) (hown : Own w base v l) (hx : a.eval x = y) (hy : Bs w B y m)
    (hlen : l.length + m.length ≤ 140737488355327) (hbase : base ≤ w.heap.size)
    (h : ∀ v' w', Own w' base v' (l ++ m) → w.grownBy w' v.ownBlock → (v'.ownBlock = v.ownBlock ∨ v'.ownBlock = some w.heap.size) → K (a.put o.dst v') w') : if Region.wanted o (yielded ops a.tmps) = true then Oper.wp Try.prog o a w K Q else E := by
  have hw : Region.wanted o (yielded ops a.tmps) = true := by simp [Region.wanted, hgd]
  rw [if_pos hw]
  obtain ⟨v', w', hr, h2, h3, h4⟩ := run_app_bytes w o.type hown hy hlen hbase
  unfold Oper.wp execOp
  simp only [ho, resolve, invoke, builtin, Sem.run_bind, Sem.run_pure, Result.andThen_ok, List.map_toArray, List.map_cons, List.map_nil, hs, hx, hr]
  exact h v' w' h2 h3 h4
theorem Keep.undrew {S : Nat → Prop} {w w' : World} (h : Keep S w.drew w') : Keep S w w' := ⟨h.os, h.tape, h.output, h.size, h.block⟩
theorem Bs.first {w : World} {B c : Nat} {A : Option Addr} {l : List UInt8} (h : Bs w B (.slice A l.length c) l) {k : Nat} (hk : k ≤ l.length) : Bs w B (.slice A k c) (l.take k) := by
  obtain ⟨A', c', e, h1, h2⟩ := h
  simp only [Value.slice.injEq, true_and] at e
  obtain ⟨rfl, rfl⟩ := e
  refine ⟨A, c, by rw [List.length_take, Nat.min_eq_left hk], by rw [List.length_take]; omega, fun hne => ?_⟩
  obtain ⟨b, off, rfl, hb, hc⟩ := h2 (by intro e; subst e; simp at hne)
  refine ⟨b, off, rfl, hb, fun i u hu => hc i u ?_⟩
  rw [List.getElem?_take] at hu
  split at hu
  · exact hu
  · cases hu
theorem keeps_le (F : Fil) (part : Int) : keepsOf F part ≤ F.fresh.length := by
  unfold keepsOf
  have := Nat.mod_lt (max part 0).toNat (show 0 < F.fresh.length + 1 by omega)
  omega
theorem keeps_rem (F : Fil) (part : Int) : (max part 0).tmod ((F.fresh.length : Int) + 1) = (keepsOf F part : Int) := by
  obtain ⟨q, hq⟩ : ∃ q : Nat, max part 0 = q := ⟨(max part 0).toNat, by omega⟩
  unfold keepsOf
  rw [hq]
  exact (Int.ofNat_tmod q (F.fresh.length + 1)).symm
theorem own_ne {v vs : Value} {g n : Nat} (h : v.ownBlock = vs.ownBlock ∨ v.ownBlock = some n) (h1 : vs.ownBlock ≠ some g) (hg : g < n) : v.ownBlock ≠ some g := by
  rcases h with h | h
  · rw [h]; exact h1
  · rw [h]; simp; omega
theorem fset1 {S : Nat → Prop} {w w' : World} {g : Nat} {v x y z : Value} {l : List UInt8} {t : TypeId} (hr : Row w' g [v, x, y] t) (ho : Own w' 0 v l) (hv : v.ownBlock ≠ some g) (hk : Keep (fun b => b = g ∨ S b) w w') :
    Row (w'.setCell ⟨g, 2, none⟩ z) g [v, x, z] t ∧ Own (w'.setCell ⟨g, 2, none⟩ z) 0 v l ∧ Keep (fun b => b = g ∨ S b) w (w'.setCell ⟨g, 2, none⟩ z) :=
  ⟨hr.set 2 z, (Keep.setCell w' ⟨g, 2, none⟩ z).own ho (fun b hb e => hv (by rw [hb, e])), hk.trans ((Keep.setCell w' ⟨g, 2, none⟩ z).mono fun b _ e => .inl e)⟩
theorem fset2 {S : Nat → Prop} {w w' : World} {g : Nat} {v x v1 v2 y : Value} {l : List UInt8} {t : TypeId} (hr : Row w' g [v1, v2, y] t) (ho : Own w' 0 v l) (hv : v.ownBlock ≠ some g) (hk : Keep S w w') :
    Row ((w'.setCell ⟨g, 0, none⟩ v).setCell ⟨g, 1, none⟩ x) g [v, x, y] t ∧ Own ((w'.setCell ⟨g, 0, none⟩ v).setCell ⟨g, 1, none⟩ x) 0 v l ∧ Keep (fun b => b = g ∨ S b) w ((w'.setCell ⟨g, 0, none⟩ v).setCell ⟨g, 1, none⟩ x) :=
  ⟨(hr.set 0 v).set 1 x, (Keep.setCell _ ⟨g, 1, none⟩ x).own ((Keep.setCell w' ⟨g, 0, none⟩ v).own ho (fun b hb e => hv (by rw [hb, e]))) (fun b hb e => hv (by rw [hb, e])),
   ((hk.mono fun b _ e => .inr e).trans ((Keep.setCell w' ⟨g, 0, none⟩ v).mono fun b _ e => .inl e)).trans ((Keep.setCell _ ⟨g, 1, none⟩ x).mono fun b _ e => .inl e)⟩
set_option maxRecDepth 100000 in
set_option maxHeartbeats 1000000 in
theorem fsync_at {w : World} {g : Nat} {vs vf : Value} {F : Fil} (h : FRow w g vs vf F) (hg1 : vs.ownBlock ≠ some g) (hg2 : vf.ownBlock ≠ some g) : Calls Try.prog 27 #[pv g] w fun e w' => e = .returned (.tuple #[]) ∧
    ∃ vs', Row w' g [vs', .slice none 0 0, .bool true] 62 ∧ Own w' 0 vs' (F.safe ++ F.fresh) ∧ (vs'.ownBlock = vs.ownBlock ∨ vs'.ownBlock = some w.heap.size) ∧ Keep (fun b => b = g ∨ some b = vs.ownBlock) w w' := by
  obtain ⟨A1, n1, e1⟩ := h.safe.shape
  obtain ⟨A2, n2, e2⟩ := h.fresh.shape
  subst e1 e2
  have h1 : w.cell? ⟨g, 0, none⟩ = some (.slice A1 F.safe.length n1) := h.row.cell rfl
  have h2 : w.cell? ⟨g, 1, none⟩ = some (.slice A2 F.fresh.length n2) := h.row.cell rfl
  have H := Lib.hid h
  have Hg1 := Lib.hid hg1
  have Hg2 := Lib.hid hg2
  unfold pv
  clear h hg1 hg2
  go_enter Try.func27, Try.ntmps27
  go_wp2_with fail
  go_region_law (refine step_app_bytes rfl (.tmp 7) (.tmp 11) rfl (by simp [Act.eval, Act.put]) H.out.safe (by simp [Act.eval, Act.put]) H.out.fresh.bs (by have := H.out.lenS; have := H.out.lenF; omega) (Nat.zero_le _) ?_; intro v' w' ho hg he; obtain ⟨A3, n3, rfl⟩ := ho.shape; have Hr := Lib.hid ((Keep.of_grown hg).row H.out.row (fun e => Hg1.out e.symm)); have hc1 := Hr.out.cell (i := 0) rfl; have hc2 := Hr.out.cell (i := 1) rfl; have hc3 := Hr.out.cell (i := 2) rfl; have hf1 := frozen_row Hr.out 0; have hf2 := frozen_row Hr.out 1; have hf3 := frozen_row Hr.out 2; have Ho := Lib.hid ho; have Hgr := Lib.hid hg; have He := Lib.hid he; clear ho hg he)
  all_goals
    go_wp2
    go_end0
    have hlt := H.out.row.lt
    have Ho' := Ho.out
    have He' := He.out
    rw [List.length_append] at Ho' He'
    have hne := own_ne He' Hg1.out hlt
    obtain ⟨k1, k2, k3⟩ := fset2 Hr.out Ho' hne (Keep.of_grown Hgr.out)
    obtain ⟨k4, k5, k6⟩ := fset1 k1 k2 hne k3
    exact ⟨rfl, _, k4, k5, He', k6.undrew⟩
set_option maxRecDepth 100000 in
set_option maxHeartbeats 1000000 in
theorem fcrash_at {w : World} {g : Nat} {vs vf : Value} {F : Fil} (h : FRow w g vs vf F) (hg1 : vs.ownBlock ≠ some g) (hg2 : vf.ownBlock ≠ some g) (part : Int) :
    Calls Try.prog 29 #[pv g, .int .i64 part] w fun e w' => e = .returned (.int .i64 (loses F part : Int)) ∧
    ∃ vs', Row w' g [vs', .slice none 0 0, .bool F.syn] 62 ∧ Own w' 0 vs' (F.safe ++ F.fresh.take (keepsOf F part)) ∧ (vs'.ownBlock = vs.ownBlock ∨ vs'.ownBlock = some w.heap.size) ∧ Keep (fun b => b = g ∨ some b = vs.ownBlock) w w' := by
  obtain ⟨A1, n1, e1⟩ := h.safe.shape
  obtain ⟨A2, n2, e2, hn2, hA2⟩ : ∃ A2 n2, vf = .slice A2 F.fresh.length n2 ∧ F.fresh.length ≤ n2 ∧ (A2 = none ∨ ∃ b, A2 = some ⟨b, 0, none⟩) := by
    rcases h.fresh.2 with ⟨e, hl⟩ | ⟨b, cap, cur, e, _, _, hc, _⟩
    · exact ⟨none, 0, by rw [e, hl], by omega, .inl rfl⟩
    · exact ⟨some ⟨b, 0, none⟩, cap, e, hc, .inr ⟨b, rfl⟩⟩
  subst e1 e2
  have h1 : w.cell? ⟨g, 0, none⟩ = some (.slice A1 F.safe.length n1) := h.row.cell rfl
  have h2 : w.cell? ⟨g, 1, none⟩ = some (.slice A2 F.fresh.length n2) := h.row.cell rfl
  have H := Lib.hid h
  have Hg1 := Lib.hid hg1
  have Hg2 := Lib.hid hg2
  obtain ⟨k, hk⟩ : ∃ k, keepsOf F part = k := ⟨_, rfl⟩
  have hrem := keeps_rem F part
  have hle := keeps_le F part
  have hlF := h.lenF
  rw [hk] at hrem hle
  have hw1 : wrap64 ((F.fresh.length : Int) + 1) = (F.fresh.length : Int) + 1 := by unfold wrap64; omega
  have hz : ¬ ((F.fresh.length : Int) + 1 = 0) := by omega
  have hlo : (loses F part : Int) = wrap64 ((F.fresh.length : Int) - (k : Int)) := by
    unfold loses wrap64
    rw [hk]
    omega
  have hb1 : (0 : Int) ≤ (k : Int) := by omega
  have hb2 : (k : Int) ≤ (n2 : Int) := by omega
  have Hlo := Lib.hid hlo
  have Hle := Lib.hid hle
  rw [hk]
  unfold pv
  clear h hg1 hg2 hlo hk hlF hn2 hle
  rcases hA2 with rfl | ⟨b2, rfl⟩
  all_goals
    have Hfirst := Lib.hid (Bs.first H.out.fresh.bs Hle.out)
    go_enter Try.func29, Try.ntmps29
    go_wp2_with fail
    go_region_law (refine step_app_bytes rfl (.tmp 28) (.tmp 34) rfl (by simp [Act.eval, Act.put]) H.out.safe (by simp [Act.eval, Act.put]) Hfirst.out (by have := H.out.lenS; have := H.out.lenF; rw [List.length_take]; omega) (Nat.zero_le _) ?_; intro v' w' ho hg he; obtain ⟨A3, n3, rfl⟩ := ho.shape; have Hr := Lib.hid ((Keep.of_grown hg).row H.out.row (fun e => Hg1.out e.symm)); have hc1 := Hr.out.cell (i := 0) rfl; have hc2 := Hr.out.cell (i := 1) rfl; have hf1 := frozen_row Hr.out 0; have hf2 := frozen_row Hr.out 1; have Ho := Lib.hid ho; have Hgr := Lib.hid hg; have He := Lib.hid he; clear ho hg he)
    all_goals
      go_wp2
      go_ret
      have hlt := H.out.row.lt
      have Ho' := Ho.out
      have He' := He.out
      rw [List.length_append, List.length_take] at Ho' He'
      have hne := own_ne He' Hg1.out hlt
      obtain ⟨k1, k2, k3⟩ := fset2 Hr.out Ho' hne (Keep.of_grown Hgr.out)
      exact ⟨congrArg (fun x => Ending.returned (Value.int .i64 x)) Hlo.out.symm, _, k1, k2, He', k3.undrew⟩
end Go.Proofs.Ytgmmjnedgaeefaa.Dsk
