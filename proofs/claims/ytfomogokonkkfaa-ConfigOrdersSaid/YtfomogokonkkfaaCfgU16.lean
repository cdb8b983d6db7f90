/- config: lists of uint16, and maps of them to bool. -/
import Derived.Test.YtfomogokonkkfaaCfgSet
import Derived.Test.YtfomogokonkkfaaArgs
import Derived.Maps.OwnSet
namespace Go.Proofs.Ytfomogokonkkfaa.Cfg
open Go.ChangeShapes Go.WideShapes Go.RowKit Go.Deep Go.Maps
def uv (p : Nat) : Value := .int .u16 (p : Int)
/-- A slice that reads as these numbers, in a block below B. -/
def UTab (w : World) (B : Nat) (v : Value) (l : List Nat) : Prop := Tab 1 w B v l.length (l.map uv)
def OwnU (w : World) (base : Nat) (v : Value) (l : List Nat) : Prop := w.ownsRow base 66 1 v l.length (l.map uv)
theorem UTab.at {w : World} {B : Nat} {A : Option Addr} {n c : Nat} {l : List Nat} (h : UTab w B (.slice A n c) l) {i : Nat} {p : Nat} (hp : l[i]? = some p) : ∃ b off, A = some ⟨b, off, none⟩ ∧ b < B ∧ w.cell? ⟨b, off + i, none⟩ = some (.int .u16 (p : Int)) := by
  obtain ⟨A', c', e, _, _, h4⟩ := h
  simp only [Value.slice.injEq] at e
  obtain ⟨rfl, _, rfl⟩ := e
  have hlt := (List.getElem?_eq_some_iff.1 hp).1
  obtain ⟨b, off, rfl, hb, hc⟩ := h4 (by omega)
  exact ⟨b, off, rfl, hb, hc i _ (by rw [List.getElem?_map, hp]; rfl)⟩
theorem UTab.shape {w : World} {B : Nat} {v : Value} {l : List Nat} (h : UTab w B v l) : ∃ A c, v = .slice A l.length c := by
  obtain ⟨A, c, e, _⟩ := Tab.shape h
  exact ⟨A, c, e⟩
section
variable {H : Type} {enc : TypeId × Value → H}
set_option maxRecDepth 100000 in
theorem u16s_trod {W : World} {t : TypeId} {base : Nat} {sp : Nat → Bool} {v : Value} {d : DataW H} {ps : List MemPlace} (ht : Try.prog.underlying t = some (.slice 66))
    (hok : Value.okWide Try.prog W .any base t v) (h : DataW.Trod enc Try.prog W 0 sp true t v d ps) (hlt : ∀ x ∈ ps, x.block < W.heap.size) : ∃ l : List Nat, UTab W W.heap.size v l ∧ l.length ≤ maxLen ∧ ∀ p ∈ l, p < 65536 := by
  have hc1 : Try.prog.cellsOf 66 = 1 := by kernel_rfl
  obtain ⟨A, n, c, rfl⟩ := okWide_slice ht hok
  obtain ⟨fuel, hf⟩ := h
  rcases open_ints ht Try.underlying66 hc1 hf with ⟨hcs, hx⟩ | ⟨a, len, cap, zs, hcs, _, hl, hm, hz, hx, hcell, hwz⟩
  · simp only [Value.cells, List.cons.injEq, Value.slice.injEq, and_true] at hcs
    obtain ⟨rfl, rfl, rfl⟩ := hcs
    exact ⟨[], Tab.nil 1 _ _ _ _, by simp, by simp⟩
  · simp only [Value.cells, List.cons.injEq, Value.slice.injEq, and_true] at hcs
    obtain ⟨rfl, rfl, rfl⟩ := hcs
    simp only [Prod.mk.injEq] at hx
    obtain ⟨rfl, rfl⟩ := hx
    have hle : n ≤ zs.length := by rw [hz]; split <;> omega
    have hw : ∀ z ∈ zs, 0 ≤ z ∧ z ≤ 65535 := fun z hz => by
      have := hwz z hz
      simp only [Lit.wf, Bool.and_eq_true, decide_eq_true_eq, show IntKind.u16.min = 0 from rfl, show IntKind.u16.max = 65535 from rfl] at this
      exact this
    refine ⟨(zs.take n).map Int.toNat, ?_, by simp; omega, fun p hp => ?_⟩
    · have hlen : ((zs.take n).map Int.toNat).length = n := by simp; omega
      unfold UTab
      rw [hlen]
      refine ⟨some a, c, rfl, hl, by simp; omega, fun hn0 => ?_⟩
      obtain ⟨b, off, spot⟩ := a
      have hspot : spot = none := spot_none (hcell 0 (by omega))
      subst hspot
      refine ⟨b, off, rfl, hlt (.cell b off) (MemPlace.mem_row.2 ⟨0, by omega, by simp⟩), fun i x hx => ?_⟩
      rw [List.getElem?_map, List.getElem?_map, List.getElem?_take] at hx
      split at hx
      · have hi' : i < zs.length := by omega
        rw [List.getElem?_eq_getElem hi'] at hx
        simp only [Option.map_some, Option.some.injEq] at hx
        have hc := hcell i hi'
        rw [add_none, List.getD_eq_getElem?_getD, List.getElem?_eq_getElem hi'] at hc
        rw [hc, ← hx]
        have := hw zs[i] (List.getElem_mem hi')
        unfold uv
        congr 2
        simp
        omega
      · simp at hx
    · obtain ⟨z, hz, rfl⟩ := List.mem_map.1 hp
      have := hw z (List.mem_of_mem_take hz)
      omega
end
set_option maxRecDepth 100000 in
theorem info_u16 : ∃ i, Try.prog.info? 66 = some i ∧ i.zero = some (.int .u16 0) ∧ i.size = 1 ∧ i.bytes = 2 := ⟨_, rfl, by kernel_rfl, by kernel_rfl, by kernel_rfl⟩
theorem wp_appU {ops : Array Oper} {rest : List Oper} {o : Oper} {a : Act} {Q : Exit → Act → World → Prop} (w : World) {base B : Nat} (hgd : o.guard = none) (so xo : Operand) (ho : o.op = .call { callee := .builtin .append, args := #[so, xo], argTypes := #[64, 64] })
    {v y : Value} {l m : List Nat} (hsv : a.eval so = v) (hown : OwnU w base v l) (hyv : a.eval xo = y) (hy : UTab w B y m) (hlen : l.length + m.length ≤ 1000000) (hbase : base ≤ w.heap.size)
    (h : ∀ v' w', OwnU w' base v' (l ++ m) → Below base w w' → wpList Try.prog ops Q rest (a.put o.dst v') w') : wpList Try.prog ops Q (o :: rest) a w := by
  obtain ⟨i, hi, hz, hs, hb⟩ := info_u16
  refine wpList_app_tab (P := Try.prog) w Try.underlying64 hi hz hs hb rfl (by decide) hgd so xo ho hsv hown hyv hy (fun u hu => by obtain ⟨p, _, rfl⟩ := List.mem_map.1 hu; rfl) hlen (by decide) hbase fun v' w' h1 h2 => h v' w' ?_ h2
  unfold OwnU
  rw [List.length_append, List.map_append]
  exact h1
theorem OwnU.tab {w : World} {base : Nat} {v : Value} {l : List Nat} (h : OwnU w base v l) : UTab w w.heap.size v l := Tab.of_own h
theorem ownU_nil (w : World) (base : Nat) : OwnU w base (.slice none 0 0) [] := World.ownsRow_nil w base 66 1
theorem OwnU.kept {w w' : World} {base g : Nat} {v : Value} {l : List Nat} (h : OwnU w base v l) (hg : w.grownBy w' (some g)) (hlt : g < base) : OwnU w' base v l := by
  refine ⟨h.1, ?_⟩
  rcases h.2 with h2 | ⟨g', cap, cur, e, hb, hgg, r⟩
  · exact .inl h2
  · exact .inr ⟨g', cap, cur, e, hb, by rw [hg.block g' (Array.getElem?_eq_some_iff.1 hgg).1 (fun e => by cases e; omega)]; exact hgg, r⟩
theorem grown_below {w w' : World} {g B : Nat} (hg : w.grownBy w' (some g)) (hB : B ≤ g) (hs : B ≤ w.heap.size) : Below B w w' := ⟨hg.os, hg.tape, hg.output, hg.size, fun k hk => hg.block k (by omega) (fun e => by cases e; omega)⟩
abbrev MD := DataW Unit
abbrev UM (W : World) (b n : Nat) (D : MD) : Prop := W.ownsMap Try.prog 66 (plainElem Try.prog 4) b n D
def In (D : MD) (x : Nat) : Prop := D.atKey (.int .u16 (x : Int)) (.lit (.bool false)) = .lit (.bool true)
theorem law16 : Keyed Try.prog 66 := int_keyed Try.underlying66
set_option maxRecDepth 100000 in
theorem zero4 (W : World) : (zeroValue 4).run Try.prog W = .ok (.bool false) W := by kernel_rfl
theorem wf16 {x : Nat} (h : x < 65536) : (Lit.int .u16 (x : Int)).wf = true := by
  simp only [Lit.wf, IntKind.min, IntKind.max, IntKind.bits, IntKind.signed]
  simp
  omega
theorem key16 {x : Nat} (h : x < 65536) : keyOf Try.prog 66 (.int .u16 (x : Int)) = some (.int .u16 (x : Int)) := keyOf_int_mk Try.underlying66 (wf16 h)
theorem plainElem_bool_inv {P : Program} {e : TypeId} (he : P.underlying e = some .bool) {v : Value} {z : MD × List MemPlace} (h : plainElem P e v = some z) : ∃ x, v = .bool x ∧ z = (.lit (.bool x), []) := by
  unfold plainElem at h
  rw [he] at h
  cases v <;> simp at h
  subst h
  exact ⟨_, rfl, rfl⟩
set_option maxRecDepth 100000 in
theorem ulook {W : World} {b n : Nat} {D : MD} (h : UM W b n D) {x : Nat} (hx : x < 65536) : ∃ c : Bool, (In D x ↔ c = true) ∧ (Instr.lookup 65 (.map (some b)) (.int .u16 (x : Int)) false).run Try.prog W = .ok (.bool c) W := by
  obtain ⟨v, ps, hrun, hv⟩ := h.lookup law16 Try.underlying65 (zero4 W) (plainElem_bool Try.underlying4 false) (key16 hx)
  obtain ⟨c, rfl, hc⟩ := plainElem_bool_inv Try.underlying4 hv
  have hc' : D.atKey (.int .u16 (x : Int)) (.lit (.bool false)) = .lit (.bool c) := congrArg Prod.fst hc
  refine ⟨c, ?_, hrun⟩
  unfold In
  rw [hc']
  constructor
  · intro e; injection e with e; injection e
  · rintro rfl; rfl
set_option maxRecDepth 100000 in
theorem ustore {W : World} {b n : Nat} {D : MD} (h : UM W b n D) {x : Nat} (hx : x < 65536) (hn : n < maxLen) :
    ∃ W', (Instr.mapUpdate 65 (.map (some b)) (.int .u16 (x : Int)) (.bool true)).run Try.prog W = .ok () W' ∧ UM W' b (n + 1) (D.put (.int .u16 (x : Int)) (.lit (.bool true))) ∧ W.grownBy W' (some b) :=
  h.update law16 Try.underlying65 hn (key16 hx) (plainElem_bool Try.underlying4 true)
theorem UM.below {W W' : World} {B b n : Nat} {D : MD} (h : UM W b n D) (hb : Below B W W') (hlt : b < B) : UM W' b n D := by
  obtain ⟨es, clock, hbb, r⟩ := h
  refine ⟨es, clock, ?_, r⟩
  rw [hb.block b hlt]
  exact hbb
theorem in_put {W : World} {b n : Nat} {D : MD} (h : UM W b n D) {x y : Nat} (hx : x < 65536) : In (D.put (.int .u16 (x : Int)) (.lit (.bool true))) y ↔ (y = x ∨ In D y) := by
  unfold In
  by_cases hxy : y = x
  · subst hxy
    rw [atKey_put_same h.isMap (law16.key (key16 hx))]
    simp
  · rw [atKey_put_other (by simp; omega)]
    simp [hxy]
theorem in_empty (x : Nat) : ¬ In (.map []) x := by
  unfold In
  simp [DataW.atKey]
end Go.Proofs.Ytfomogokonkkfaa.Cfg
