/- config: one step, in plain terms; what Do answers. -/
import Derived.Test.YtlphmbefcbhhpaaCfgDrop
import Derived.Test.YtlphmbefcbhhpaaCfgDo4
namespace Go.Proofs.Ytlphmbefcbhhpaa.Cfg
open Go.RowKit
/-- One operation, done. -/
inductive Step (c : Cf) (o : Opn) : Cf → Int → Prop
  | bad : okO o = false → Step c o ⟨[], []⟩ 2
  | none : okO o = true → o.kind ≠ 1 → (o.kind ≠ 5 → has Mb.key (o.id, 0) c.ps = false) → (o.kind = 5 → has Rt.key (o.addr, o.bits) c.rs = false) → Step c o ⟨[], []⟩ 6
  | peer : okO o = true → o.kind = 1 → Step c o ⟨setL c.ps ⟨o.id, o.ky, false⟩, c.rs⟩ 0
  | off (m : Mb) : okO o = true → o.kind = 2 → m ∈ c.ps → m.id = o.id → Step c o ⟨setL c.ps { m with off := true }, c.rs⟩ 0
  | drop : okO o = true → o.kind = 3 → has Mb.key (o.id, 0) c.ps = true → Step c o ⟨delM c.ps (o.id, 0), c.rs.filter fun r => !(r.peer == o.id)⟩ 0
  | route : okO o = true → o.kind = 4 → has Mb.key (o.id, 0) c.ps = true → Step c o ⟨c.ps, setR c.rs ⟨o.addr, o.bits, o.id⟩⟩ 0
  | block : okO o = true → o.kind = 5 → has Rt.key (o.addr, o.bits) c.rs = true → Step c o ⟨c.ps, delR c.rs (o.addr, o.bits)⟩ 0
theorem okO_kind {o : Opn} (h : okO o = true) : o.kind = 1 ∨ o.kind = 2 ∨ o.kind = 3 ∨ o.kind = 4 ∨ o.kind = 5 := by
  unfold okO at h
  simp only [Bool.and_eq_true, Bool.or_eq_true, decide_eq_true_eq] at h
  omega
theorem okO_id {o : Opn} (h : okO o = true) (h5 : o.kind ≠ 5) : isIDB o.id = true := by
  unfold okO at h
  simp only [Bool.and_eq_true, Bool.or_eq_true, decide_eq_true_eq] at h
  exact h.2.2.1.resolve_left h5
theorem okO_pref {o : Opn} (h : okO o = true) : prefB o.addr o.bits = true := by
  unfold okO at h
  simp only [Bool.and_eq_true] at h
  exact h.2.2.2
theorem val_nil : Val ⟨[], []⟩ := ⟨Nat.zero_le _, Nat.zero_le _, fun _ h => (by simp at h), List.Pairwise.nil, fun _ h => (by simp at h), List.Pairwise.nil⟩
theorem has_setL {l : List Mb} {x : Mb} {k : Ky} (h : has Mb.key k l = true) : has Mb.key k (setL l x) = true := by
  obtain ⟨y, hy, rfl⟩ := has_iff.1 h
  unfold setL
  by_cases e : y.key = x.key
  · exact has_iff.2 ⟨x, mem_put.2 (.inl rfl), e.symm⟩
  · exact has_iff.2 ⟨y, mem_put.2 (.inr ⟨hy, e⟩), rfl⟩
theorem has_setL_self {l : List Mb} {x : Mb} : has Mb.key x.key (setL l x) = true := has_iff.2 ⟨x, mem_put.2 (.inl rfl), rfl⟩
theorem len_setL {l : List Mb} (hO : Ord Mb.key l) (x : Mb) : (setL l x).length ≤ l.length + 1 := by
  unfold setL
  rw [len_put hO]
  split <;> omega
theorem len_setR {l : List Rt} (hO : Ord Rt.key l) (x : Rt) : (setR l x).length ≤ l.length + 1 := by
  unfold setR
  rw [len_put hO]
  split <;> omega
theorem val_setL {c : Cf} (hV : Val c) (h1 : c.ps.length < 64) {x : Mb} (hx : isIDB x.id = true) : Val ⟨setL c.ps x, c.rs⟩ := by
  obtain ⟨_, l2, ids, ord, rts, ordr⟩ := hV
  refine ⟨by have := len_setL ord x; show (setL c.ps x).length ≤ 64; omega, l2, fun m hm => ?_, ord.put rfl, fun r hr => ⟨(rts r hr).1, has_setL (rts r hr).2⟩, ordr⟩
  rcases mem_put.1 hm with rfl | h
  · exact hx
  · exact ids m h.1
theorem Step.val {c c' : Cf} {o : Opn} {E : Int} (h : Step c o c' E) (hV : Val c) (h1 : c.ps.length < 64) (h2 : c.rs.length < 256) : Val c' := by
  cases h with
  | bad => exact val_nil
  | none => exact val_nil
  | peer hok hk => exact val_setL hV h1 (okO_id hok (by omega))
  | off m _ _ hm _ => exact val_setL hV h1 (hV.2.2.1 m hm)
  | drop hok hk hh =>
    obtain ⟨l1, l2, ids, ord, rts, ordr⟩ := hV
    refine ⟨Nat.le_trans (len_del _) l1, Nat.le_trans (List.length_filter_le _ _) l2, fun m hm => ids m (mem_lo_hi.1 hm).1, ord.del _, fun r hr => ?_, ordr.filter _⟩
    obtain ⟨hr1, hr2⟩ := List.mem_filter.1 hr
    refine ⟨(rts r hr1).1, ?_⟩
    obtain ⟨y, hy, e⟩ := has_iff.1 (rts r hr1).2
    refine has_iff.2 ⟨y, mem_lo_hi.2 ⟨hy, ?_⟩, e⟩
    rw [e]
    simp only [Bool.not_eq_true', beq_eq_false_iff_ne, ne_eq] at hr2
    simpa using hr2
  | route hok hk hh =>
    obtain ⟨l1, l2, ids, ord, rts, ordr⟩ := hV
    refine ⟨l1, by have := len_setR ordr ⟨o.addr, o.bits, o.id⟩; show (setR c.rs _).length ≤ 256; omega, ids, ord, fun r hr => ?_, ordr.put rfl⟩
    rcases mem_put.1 hr with rfl | h
    · exact ⟨okO_pref hok, hh⟩
    · exact rts r h.1
  | block hok hk hh =>
    obtain ⟨l1, l2, ids, ord, rts, ordr⟩ := hV
    exact ⟨l1, Nat.le_trans (len_del _) l2, ids, ord, fun r hr => rts r (mem_lo_hi.1 hr).1, ordr.del _⟩
theorem Step.len {c c' : Cf} {o : Opn} {E : Int} (h : Step c o c' E) (hV : Val c) : c'.ps.length ≤ c.ps.length + 1 ∧ c'.rs.length ≤ c.rs.length + 1 := by
  cases h with
  | bad => simp
  | none => simp
  | peer => exact ⟨len_setL hV.2.2.2.1 _, Nat.le_succ _⟩
  | off => exact ⟨len_setL hV.2.2.2.1 _, Nat.le_succ _⟩
  | drop => exact ⟨Nat.le_succ_of_le (len_del _), Nat.le_succ_of_le (List.length_filter_le _ _)⟩
  | route => exact ⟨Nat.le_succ _, len_setR hV.2.2.2.2.2 _⟩
  | block => exact ⟨Nat.le_succ _, Nat.le_succ_of_le (len_del _)⟩
theorem setL_twice {l : List Mb} (hO : Ord Mb.key l) (x : Mb) : setL (setL l x) x = setL l x := by
  have h1 : Ord Mb.key (setL l x) := hO.put rfl
  refine Ord.ext (h1.put rfl) h1 fun z => ?_
  unfold setL
  rw [mem_put, mem_put]
  constructor
  · rintro (h | ⟨h, _⟩)
    · exact .inl h
    · exact h
  · rintro (h | ⟨h, k⟩)
    · exact .inl h
    · exact .inr ⟨.inr ⟨h, k⟩, k⟩
theorem setR_twice {l : List Rt} (hO : Ord Rt.key l) (x : Rt) : setR (setR l x) x = setR l x := by
  have h1 : Ord Rt.key (setR l x) := hO.put rfl
  refine Ord.ext (h1.put rfl) h1 fun z => ?_
  unfold setR
  rw [mem_put, mem_put]
  constructor
  · rintro (h | ⟨h, _⟩)
    · exact .inl h
    · exact h
  · rintro (h | ⟨h, k⟩)
    · exact .inl h
    · exact .inr ⟨.inr ⟨h, k⟩, k⟩
theorem setL_swap {l : List Mb} (hO : Ord Mb.key l) {x y : Mb} (hk : x.key ≠ y.key) : setL (setL l x) y = setL (setL l y) x := by
  have hx : Ord Mb.key (setL l x) := hO.put rfl
  have hy : Ord Mb.key (setL l y) := hO.put rfl
  refine Ord.ext (hx.put rfl) (hy.put rfl) fun z => ?_
  unfold setL
  rw [mem_put, mem_put, mem_put, mem_put]
  constructor
  · rintro (rfl | ⟨rfl | ⟨h, k⟩, k2⟩)
    · exact .inr ⟨.inl rfl, hk.symm⟩
    · exact .inl rfl
    · exact .inr ⟨.inr ⟨h, k2⟩, k⟩
  · rintro (rfl | ⟨rfl | ⟨h, k⟩, k2⟩)
    · exact .inr ⟨.inl rfl, hk⟩
    · exact .inl rfl
    · exact .inr ⟨.inr ⟨h, k2⟩, k⟩
theorem has_del {α : Type} {key : α → Ky} {k : Ky} {l : List α} : has key k (lo key k l ++ hi key k l) = false := by
  cases h : has key k (lo key k l ++ hi key k l) with
  | false => rfl
  | true =>
    obtain ⟨x, hx, e⟩ := has_iff.1 h
    exact absurd e (mem_lo_hi.1 hx).2
/-- The same operation, done again. -/
theorem Step.twice {c c1 c2 : Cf} {o : Opn} {E : Int} (hV : Val c) (h : Step c o c1 0) (h2 : Step c1 o c2 E) : ((o.kind = 3 ∨ o.kind = 5) ∧ E = 6) ∨ (¬ (o.kind = 3 ∨ o.kind = 5) ∧ E = 0 ∧ c1.ps = c2.ps ∧ c1.rs = c2.rs) := by
  cases h with
  | peer hok hk =>
    refine .inr ⟨by omega, ?_⟩
    cases h2 with
    | bad h => rw [hok] at h; cases h
    | none _ h => exact absurd hk h
    | peer => exact ⟨rfl, (setL_twice hV.2.2.2.1 _).symm, rfl⟩
    | off _ _ h => omega
    | drop _ h => omega
    | route _ h => omega
    | block _ h => omega
  | off m hok hk hm hi =>
    refine .inr ⟨by omega, ?_⟩
    have hin : ({ m with off := true } : Mb) ∈ setL c.ps { m with off := true } := mem_put.2 (.inl rfl)
    cases h2 with
    | bad h => rw [hok] at h; cases h
    | none _ _ h =>
      have := h (by omega)
      have h3 := (has_iff (key := Mb.key) (k := (o.id, 0))).2 ⟨_, hin, by show (m.id, (0 : Int)) = (o.id, 0); rw [hi]⟩
      rw [h3] at this
      cases this
    | peer _ h => omega
    | off m2 _ _ hm2 hi2 =>
      have hO : Ord Mb.key (setL c.ps { m with off := true }) := hV.2.2.2.1.put rfl
      have e : m2 = { m with off := true } := hO.one hm2 hin (by show (m2.id, (0 : Int)) = (m.id, 0); rw [hi, hi2])
      subst e
      exact ⟨rfl, (setL_twice hV.2.2.2.1 _).symm, rfl⟩
    | drop _ h => omega
    | route _ h => omega
    | block _ h => omega
  | drop hok hk hh =>
    refine .inl ⟨.inl hk, ?_⟩
    cases h2 with
    | bad h => rw [hok] at h; cases h
    | none => rfl
    | peer _ h => omega
    | off _ _ h => omega
    | drop _ _ h =>
      have := has_del (key := Mb.key) (k := (o.id, 0)) (l := c.ps)
      rw [show has Mb.key (o.id, 0) (lo Mb.key (o.id, 0) c.ps ++ hi Mb.key (o.id, 0) c.ps) = true from h] at this
      cases this
    | route _ h => omega
    | block _ h => omega
  | route hok hk hh =>
    refine .inr ⟨by omega, ?_⟩
    cases h2 with
    | bad h => rw [hok] at h; cases h
    | none _ _ h =>
      have := h (by omega)
      rw [show has Mb.key (o.id, 0) c.ps = false from this] at hh
      cases hh
    | peer _ h => omega
    | off _ _ h => omega
    | drop _ h => omega
    | route => exact ⟨rfl, rfl, (setR_twice hV.2.2.2.2.2 _).symm⟩
    | block _ h => omega
  | block hok hk hh =>
    refine .inl ⟨.inr hk, ?_⟩
    cases h2 with
    | bad h => rw [hok] at h; cases h
    | none => rfl
    | peer _ h => omega
    | off _ _ h => omega
    | drop _ h => omega
    | route _ h => omega
    | block _ _ h =>
      have := has_del (key := Rt.key) (k := (o.addr, o.bits)) (l := c.rs)
      rw [show has Rt.key (o.addr, o.bits) (lo Rt.key (o.addr, o.bits) c.rs ++ hi Rt.key (o.addr, o.bits) c.rs) = true from h] at this
      cases this
/-- Two peers, in either order. -/
theorem Step.swap {c c1 c3 c4 c5 : Cf} {o p : Opn} (hV : Val c) (ho : o.kind = 1) (hp : p.kind = 1) (hne : o.id ≠ p.id) (h : Step c o c1 0) (h3 : Step c1 p c3 0) (h4 : Step c p c4 0) (h5 : Step c4 o c5 0) : c3.ps = c5.ps ∧ c3.rs = c5.rs := by
  have one : ∀ {a b : Cf} {q : Opn}, q.kind = 1 → Step a q b 0 → b = ⟨setL a.ps ⟨q.id, q.ky, false⟩, a.rs⟩ := by
    intro a b q hq h
    cases h with
    | peer => rfl
    | off _ _ h => omega
    | drop _ h => omega
    | route _ h => omega
    | block _ h => omega
  rw [one hp h3, one ho h5, one ho h, one hp h4]
  refine ⟨setL_swap hV.2.2.2.1 fun e => hne ?_, rfl⟩
  have : (o.id, (0 : Int)) = (p.id, 0) := e
  simpa using this
/-- What Do answers. -/
theorem DoAny {w : World} {B : Nat} {vp vr : Value} {c : Cf} {o : Opn} (h : CAt w B vp vr c) (hV : Val c) (hk : o.ky.length = 32) (h1 : c.ps.length < 64) (h2 : c.rs.length < 256) (hB : B ≤ w.heap.size) :
    ∃ c' E, Step c o c' E ∧ Calls Try.prog 34 #[.agg #[vp, vr], o.val] w fun e w' => ∃ v1 v2, e = .returned (.tuple #[.agg #[v1, v2], .int .i64 E]) ∧ CNew w' w.heap.size v1 v2 c' ∧ Below w.heap.size w w' := by
  have nil : ∀ W b, CNew W b (.slice none 0 0) (.slice none 0 0) ⟨[], []⟩ := fun W b => ⟨ownM_nil W b, ownR_nil W b⟩
  cases hok : okO o with
  | false => exact ⟨_, _, .bad hok, (Do_bad h hV hk hok hB).mono fun _ _ ⟨he, hb⟩ => ⟨_, _, he, nil _ _, hb⟩⟩
  | true =>
    rcases okO_kind hok with hk1 | hk1 | hk1 | hk1 | hk1
    · exact ⟨_, _, .peer hok hk1, (Do_1 h hV hk hk1 hok hB 0 (fun x v1 v2 => CNew x (w.heap.size + 1 + 1 + 1) v1 v2 ⟨setL c.ps ⟨o.id, o.ky, false⟩, c.rs⟩) (res_new _ _) (fun x u1 u2 v1 v2 hr => hr.setRow (Nat.lt_succ_self _) _) fun W hb hlt => (setPeer_ok (h.below (hb.mono hB)) hV hk (.inr (by omega)) (Nat.le_trans hB hb.size)).mono fun e w' ⟨v1, v2, he, hn, hb2⟩ => ⟨v1, v2, he, hn.less (by omega), hb2⟩).mono
          fun e w' ⟨v1, v2, he, hn, hb2⟩ => ⟨v1, v2, he, hn.less (by omega), hb2⟩⟩
    · cases hp : has Mb.key (o.id, 0) c.ps with
      | false => exact ⟨_, _, .none hok (by omega) (fun _ => hp) (fun h => by omega), (Do_2 h hV hk hk1 hok hB 6 (fun _ v1 v2 => v1 = .slice none 0 0 ∧ v2 = .slice none 0 0) res_zero (fun _ _ _ _ _ h => h) fun W hb hlt => (setOff_none (h.below (hb.mono hB)) hV hk hp (Nat.le_trans hB hb.size)).mono fun e w' ⟨he, hb⟩ => ⟨_, _, he, ⟨rfl, rfl⟩, hb⟩).mono
          fun e w' ⟨v1, v2, he, ⟨e1, e2⟩, hb⟩ => ⟨v1, v2, he, by subst e1 e2; exact nil _ _, hb⟩⟩
      | true =>
        obtain ⟨m, hm, hmk⟩ := at_pos (key := Mb.key) (o.id, 0) hV.2.2.2.1 hp
        have hmid : m.id = o.id := by have : (m.id, (0 : Int)) = (o.id, 0) := hmk; simpa using this
        have hmm := List.mem_of_getElem? hm
        have hcall : ∀ W, CAt W B vp vr c → B ≤ W.heap.size → Calls Try.prog 142 #[.agg #[vp, vr], o.val] W fun e w' => ∃ v1 v2, e = .returned (.tuple #[.agg #[v1, v2], .int .i64 0]) ∧ CNew w' W.heap.size v1 v2 ⟨setL c.ps { m with off := true }, c.rs⟩ ∧ Below W.heap.size W w' := by
          intro W hW hs
          obtain ⟨m2, hm2, hi2, hcl⟩ := setOff_ok hW hV hk hp hs
          have e : m2 = m := hV.2.2.2.1.one hm2 hmm (by show (m2.id, (0 : Int)) = (m.id, 0); rw [hmid, hi2])
          subst e
          exact hcl
        exact ⟨_, _, .off m hok hk1 hmm hmid, (Do_2 h hV hk hk1 hok hB 0 (fun x v1 v2 => CNew x (w.heap.size + 1 + 1 + 1) v1 v2 ⟨setL c.ps { m with off := true }, c.rs⟩) (res_new _ _) (fun x u1 u2 v1 v2 hr => hr.setRow (Nat.lt_succ_self _) _) fun W hb hlt => (hcall W (h.below (hb.mono hB)) (Nat.le_trans hB hb.size)).mono fun e w' ⟨v1, v2, he, hn, hb2⟩ => ⟨v1, v2, he, hn.less (by omega), hb2⟩).mono
          fun e w' ⟨v1, v2, he, hn, hb2⟩ => ⟨v1, v2, he, hn.less (by omega), hb2⟩⟩
    · cases hp : has Mb.key (o.id, 0) c.ps with
      | false => exact ⟨_, _, .none hok (by omega) (fun _ => hp) (fun h => by omega), (Do_3 h hV hk hk1 hok hB 6 (fun _ v1 v2 => v1 = .slice none 0 0 ∧ v2 = .slice none 0 0) res_zero (fun _ _ _ _ _ h => h) fun W hb hlt => (drop_none (h.below (hb.mono hB)) hV hk hp (Nat.le_trans hB hb.size)).mono fun e w' ⟨he, hb⟩ => ⟨_, _, he, ⟨rfl, rfl⟩, hb⟩).mono
          fun e w' ⟨v1, v2, he, ⟨e1, e2⟩, hb⟩ => ⟨v1, v2, he, by subst e1 e2; exact nil _ _, hb⟩⟩
      | true => exact ⟨_, _, .drop hok hk1 hp, (Do_3 h hV hk hk1 hok hB 0 (fun x v1 v2 => CNew x (w.heap.size + 1 + 1 + 1) v1 v2 ⟨delM c.ps (o.id, 0), c.rs.filter fun r => !(r.peer == o.id)⟩) (res_new _ _) (fun x u1 u2 v1 v2 hr => hr.setRow (Nat.lt_succ_self _) _) fun W hb hlt => (drop_ok (h.below (hb.mono hB)) hV hk hp (Nat.le_trans hB hb.size)).mono fun e w' ⟨v1, v2, he, hn, hb2⟩ => ⟨v1, v2, he, hn.less (by omega), hb2⟩).mono
          fun e w' ⟨v1, v2, he, hn, hb2⟩ => ⟨v1, v2, he, hn.less (by omega), hb2⟩⟩
    · cases hp : has Mb.key (o.id, 0) c.ps with
      | false => exact ⟨_, _, .none hok (by omega) (fun _ => hp) (fun h => by omega), (Do_4 h hV hk hk1 hok hB 6 (fun _ v1 v2 => v1 = .slice none 0 0 ∧ v2 = .slice none 0 0) res_zero (fun _ _ _ _ _ h => h) fun W hb hlt => (setRoute_none (h.below (hb.mono hB)) hV hk hp (Nat.le_trans hB hb.size)).mono fun e w' ⟨he, hb⟩ => ⟨_, _, he, ⟨rfl, rfl⟩, hb⟩).mono
          fun e w' ⟨v1, v2, he, ⟨e1, e2⟩, hb⟩ => ⟨v1, v2, he, by subst e1 e2; exact nil _ _, hb⟩⟩
      | true => exact ⟨_, _, .route hok hk1 hp, (Do_4 h hV hk hk1 hok hB 0 (fun x v1 v2 => CNew x (w.heap.size + 1 + 1 + 1) v1 v2 ⟨c.ps, setR c.rs ⟨o.addr, o.bits, o.id⟩⟩) (res_new _ _) (fun x u1 u2 v1 v2 hr => hr.setRow (Nat.lt_succ_self _) _) fun W hb hlt => (setRoute_ok (h.below (hb.mono hB)) hV hk hp (.inr (by omega)) (Nat.le_trans hB hb.size)).mono fun e w' ⟨v1, v2, he, hn, hb2⟩ => ⟨v1, v2, he, hn.less (by omega), hb2⟩).mono
          fun e w' ⟨v1, v2, he, hn, hb2⟩ => ⟨v1, v2, he, hn.less (by omega), hb2⟩⟩
    · cases hp : has Rt.key (o.addr, o.bits) c.rs with
      | false => exact ⟨_, _, .none hok (by omega) (fun h => absurd hk1 h) (fun _ => hp), (Do_5 h hV hk hk1 hok hB 6 (fun _ v1 v2 => v1 = .slice none 0 0 ∧ v2 = .slice none 0 0) res_zero (fun _ _ _ _ _ h => h) fun W hb hlt => (block_none (h.below (hb.mono hB)) hV hk hp (Nat.le_trans hB hb.size)).mono fun e w' ⟨he, hb⟩ => ⟨_, _, he, ⟨rfl, rfl⟩, hb⟩).mono
          fun e w' ⟨v1, v2, he, ⟨e1, e2⟩, hb⟩ => ⟨v1, v2, he, by subst e1 e2; exact nil _ _, hb⟩⟩
      | true => exact ⟨_, _, .block hok hk1 hp, (Do_5 h hV hk hk1 hok hB 0 (fun x v1 v2 => CNew x (w.heap.size + 1 + 1 + 1) v1 v2 ⟨c.ps, delR c.rs (o.addr, o.bits)⟩) (res_new _ _) (fun x u1 u2 v1 v2 hr => hr.setRow (Nat.lt_succ_self _) _) fun W hb hlt => (block_ok (h.below (hb.mono hB)) hV hk hp (Nat.le_trans hB hb.size)).mono fun e w' ⟨v1, v2, he, hn, hb2⟩ => ⟨v1, v2, he, hn.less (by omega), hb2⟩).mono
          fun e w' ⟨v1, v2, he, hn, hb2⟩ => ⟨v1, v2, he, hn.less (by omega), hb2⟩⟩
end Go.Proofs.Ytlphmbefcbhhpaa.Cfg
namespace Go.Proofs.Ytlphmbefcbhhpaa.Cfg
open Go.RowKit
set_option maxRecDepth 100000 in
set_option maxHeartbeats 2000000 in
theorem setPeer_full {w : World} {B : Nat} {vp vr : Value} {c : Cf} {o : Opn} (h : CAt w B vp vr c) (hV : Val c) (hk : o.ky.length = 32) (hpeer : has Mb.key (o.id, 0) c.ps = false) (hfull : c.ps.length = 64) (hB : B ≤ w.heap.size) :
    Calls Try.prog 141 #[.agg #[vp, vr], o.val] w fun e w' => e = .returned (.tuple #[zcfg, .int .i64 9]) ∧ Below w.heap.size w w' := by
  obtain ⟨A1, n1, A2, n2, rfl, rfl⟩ := h.shape
  obtain ⟨W1, hW1⟩ : ∃ W1, ((w.alloc (.cells #[.slice A1 c.ps.length n1, .slice A2 c.rs.length n2] 27)).alloc (.cells o.cs.toArray 45)).alloc (.cells #[.slice none 0 0, .slice none 0 0] 27) = W1 := ⟨_, rfl⟩
  have hb1 : Below w.heap.size w W1 := hW1 ▸ (((Below.refl _ w).alloc (Nat.le_refl _) _).alloc (by simp) _).alloc (by simp; omega) _
  have hr0 : Row W1 w.heap.size [.slice A1 c.ps.length n1, .slice A2 c.rs.length n2] 27 := hW1 ▸ ((Row.new rfl rfl : Row (w.alloc (.cells #[.slice A1 c.ps.length n1, .slice A2 c.rs.length n2] 27)) w.heap.size [.slice A1 c.ps.length n1, .slice A2 c.rs.length n2] 27).alloc _).alloc _
  have hr1 : Row W1 (w.heap.size + 1) o.cs 45 := hW1 ▸ (Row.new (by simp) rfl : Row ((w.alloc (.cells #[.slice A1 c.ps.length n1, .slice A2 c.rs.length n2] 27)).alloc (.cells o.cs.toArray 45)) (w.heap.size + 1) o.cs 45).alloc _
  have hr2 : Row W1 (w.heap.size + 1 + 1) [.slice none 0 0, .slice none 0 0] 27 := hW1 ▸ Row.new (by simp) rfl
  have c0 := hr0.cell (i := 0) rfl
  have c1 := hr0.cell (i := 1) rfl
  have ci := hr1.cell (i := 2) rfl
  have ca := hr1.cell (i := 35) (Opn.at35 hk)
  have cb := hr1.cell (i := 36) (Opn.at36 hk)
  have HR0 := Lib.hid hr0
  have HR1 := Lib.hid hr1
  have HR2 := Lib.hid hr2
  have HB1 := Lib.hid hb1
  have HC := Lib.hid h
  have Hk := Lib.hid hk
  have HV := Lib.hid hV
  have HBw := Lib.hid hB
  have hf : ((c.ps.length : Int) == 64) = true := by rw [hfull]; rfl
  clear hfull
  have HAt := Lib.hid (At1_any (w := W1) (B := B) (vp := .slice A1 c.ps.length n1) (vr := .slice A2 c.rs.length n2) (h.1.below (hb1.mono hB)) (by have := hV.1; omega) hV.2.2.2.1 rfl rfl o.id (Nat.le_trans hB hb1.size))
  obtain ⟨p, hp⟩ : ∃ p, pos Mb.key (o.id, 0) c.ps = p := ⟨_, rfl⟩
  rw [hp, hpeer] at HAt
  clear h hV hk hB hb1 hr0 hr1 hr2 hp hpeer
  unfold Opn.val
  go_enter Try.func141, Try.ntmps141
  go_wp2_with fail
  refine HAt.out.mono ?_
  rintro e W2 ⟨rfl, hb⟩
  have HR0' := Lib.hid (HR0.out.below hb HR0.out.lt)
  have HR1' := Lib.hid (HR1.out.below hb HR1.out.lt)
  have HR2' := Lib.hid (HR2.out.below hb HR2.out.lt)
  have HB12 := Lib.hid (show Below w.heap.size w W2 from nextB HB1.out (Nat.le_refl _) hb)
  have d0 := HR0'.out.cell (i := 0) rfl
  have d1 := HR0'.out.cell (i := 1) rfl
  have di := HR1'.out.cell (i := 2) rfl
  have da := HR1'.out.cell (i := 35) (Opn.at35 Hk.out)
  have db := HR1'.out.cell (i := 36) (Opn.at36 Hk.out)
  clear hb c0 c1 ci ca cb hW1
  clear HAt HC HV Hk
  have f0 := frozen_row HR2'.out 0
  have f1 := frozen_row HR2'.out 1
  have g0 := HR2'.out.cell (i := 0) rfl
  have g1 := HR2'.out.cell (i := 1) rfl
  go_wp2_with fail
  refine bodyPost_ret (results_ct rfl rfl ((HR2'.out.set 0 _).set 1 _) Try.underlying27 rfl (by kernel_rfl) rfl) rfl ?_
  exact ⟨rfl, (HB12.out.setCell (by simp; omega) _).setCell (by simp; omega) _⟩
theorem val_setL' {c : Cf} (hV : Val c) {x : Mb} (h1 : has Mb.key x.key c.ps = true ∨ c.ps.length ≠ 64) (hx : isIDB x.id = true) : Val ⟨setL c.ps x, c.rs⟩ := by
  obtain ⟨l1, l2, ids, ord, rts, ordr⟩ := hV
  refine ⟨?_, l2, fun m hm => ?_, ord.put rfl, fun r hr => ⟨(rts r hr).1, has_setL (rts r hr).2⟩, ordr⟩
  · show (setL c.ps x).length ≤ 64
    unfold setL
    rw [len_put ord]
    rcases h1 with h1 | h1
    · rw [h1]; simpa using l1
    · split <;> omega
  · rcases mem_put.1 hm with rfl | h
    · exact hx
    · exact ids m h.1
theorem val_drop {c : Cf} {id : Int} (hV : Val c) : Val ⟨delM c.ps (id, 0), c.rs.filter fun r => !(r.peer == id)⟩ := by
  obtain ⟨l1, l2, ids, ord, rts, ordr⟩ := hV
  refine ⟨Nat.le_trans (len_del _) l1, Nat.le_trans (List.length_filter_le _ _) l2, fun m hm => ids m (mem_lo_hi.1 hm).1, ord.del _, fun r hr => ?_, ordr.filter _⟩
  obtain ⟨hr1, hr2⟩ := List.mem_filter.1 hr
  refine ⟨(rts r hr1).1, ?_⟩
  obtain ⟨y, hy, e⟩ := has_iff.1 (rts r hr1).2
  refine has_iff.2 ⟨y, mem_lo_hi.2 ⟨hy, ?_⟩, e⟩
  rw [e]
  simp only [Bool.not_eq_true', beq_eq_false_iff_ne, ne_eq] at hr2
  simpa using hr2
theorem val_route {c : Cf} {a b id : Int} (hV : Val c) (h2 : c.rs.length < 256) (hp : prefB a b = true) (hh : has Mb.key (id, 0) c.ps = true) : Val ⟨c.ps, setR c.rs ⟨a, b, id⟩⟩ := by
  obtain ⟨l1, l2, ids, ord, rts, ordr⟩ := hV
  refine ⟨l1, by have := len_setR ordr ⟨a, b, id⟩; show (setR c.rs _).length ≤ 256; omega, ids, ord, fun r hr => ?_, ordr.put rfl⟩
  rcases mem_put.1 hr with rfl | h
  · exact ⟨hp, hh⟩
  · exact rts r h.1
theorem val_block {c : Cf} {k : Ky} (hV : Val c) : Val ⟨c.ps, delR c.rs k⟩ := by
  obtain ⟨l1, l2, ids, ord, rts, ordr⟩ := hV
  exact ⟨l1, Nat.le_trans (len_del _) l2, ids, ord, fun r hr => rts r (mem_lo_hi.1 hr).1, ordr.del _⟩
/-- What Do answers: a step that leaves a valid configuration; or that there are 64 peers. -/
theorem DoAnyF {w : World} {B : Nat} {vp vr : Value} {c : Cf} {o : Opn} (h : CAt w B vp vr c) (hV : Val c) (hk : o.ky.length = 32) (h2 : c.rs.length < 256) (hB : B ≤ w.heap.size) :
    ∃ c' E, ((Step c o c' E ∧ Val c') ∨ (c' = ⟨[], []⟩ ∧ E = 9)) ∧ Calls Try.prog 34 #[.agg #[vp, vr], o.val] w fun e w' => ∃ v1 v2, e = .returned (.tuple #[.agg #[v1, v2], .int .i64 E]) ∧ CNew w' w.heap.size v1 v2 c' ∧ Below w.heap.size w w' := by
  by_cases h1 : c.ps.length < 64
  · obtain ⟨c', E, hS, hC⟩ := DoAny h hV hk h1 h2 hB
    exact ⟨c', E, .inl ⟨hS, hS.val hV h1 h2⟩, hC⟩
  have nil : ∀ W b, CNew W b (.slice none 0 0) (.slice none 0 0) ⟨[], []⟩ := fun W b => ⟨ownM_nil W b, ownR_nil W b⟩
  have h64 : c.ps.length = 64 := by have := hV.1; omega
  cases hok : okO o with
  | false => exact ⟨_, _, .inl ⟨.bad hok, val_nil⟩, (Do_bad h hV hk hok hB).mono fun _ _ ⟨he, hb⟩ => ⟨_, _, he, nil _ _, hb⟩⟩
  | true =>
    rcases okO_kind hok with hk1 | hk1 | hk1 | hk1 | hk1
    · cases hp : has Mb.key (o.id, 0) c.ps with
      | false => exact ⟨_, _, .inr ⟨rfl, rfl⟩, (Do_1 h hV hk hk1 hok hB 9 (fun _ v1 v2 => v1 = .slice none 0 0 ∧ v2 = .slice none 0 0) res_zero (fun _ _ _ _ _ h => h) fun W hb hlt => (setPeer_full (h.below (hb.mono hB)) hV hk hp h64 (Nat.le_trans hB hb.size)).mono fun e w' ⟨he, hb⟩ => ⟨_, _, he, ⟨rfl, rfl⟩, hb⟩).mono
          fun e w' ⟨v1, v2, he, ⟨e1, e2⟩, hb⟩ => ⟨v1, v2, he, by subst e1 e2; exact nil _ _, hb⟩⟩
      | true => exact ⟨_, _, .inl ⟨.peer hok hk1, val_setL' hV (.inl hp) (okO_id hok (by omega))⟩, (Do_1 h hV hk hk1 hok hB 0 (fun x v1 v2 => CNew x (w.heap.size + 1 + 1 + 1) v1 v2 ⟨setL c.ps ⟨o.id, o.ky, false⟩, c.rs⟩) (res_new _ _) (fun x u1 u2 v1 v2 hr => hr.setRow (Nat.lt_succ_self _) _) fun W hb hlt => (setPeer_ok (h.below (hb.mono hB)) hV hk (.inl hp) (Nat.le_trans hB hb.size)).mono fun e w' ⟨v1, v2, he, hn, hb2⟩ => ⟨v1, v2, he, hn.less (by omega), hb2⟩).mono
          fun e w' ⟨v1, v2, he, hn, hb2⟩ => ⟨v1, v2, he, hn.less (by omega), hb2⟩⟩
    · cases hp : has Mb.key (o.id, 0) c.ps with
      | false => exact ⟨_, _, .inl ⟨.none hok (by omega) (fun _ => hp) (fun h => by omega), val_nil⟩, (Do_2 h hV hk hk1 hok hB 6 (fun _ v1 v2 => v1 = .slice none 0 0 ∧ v2 = .slice none 0 0) res_zero (fun _ _ _ _ _ h => h) fun W hb hlt => (setOff_none (h.below (hb.mono hB)) hV hk hp (Nat.le_trans hB hb.size)).mono fun e w' ⟨he, hb⟩ => ⟨_, _, he, ⟨rfl, rfl⟩, hb⟩).mono
          fun e w' ⟨v1, v2, he, ⟨e1, e2⟩, hb⟩ => ⟨v1, v2, he, by subst e1 e2; exact nil _ _, hb⟩⟩
      | true =>
        obtain ⟨m, hm, hmk⟩ := at_pos (key := Mb.key) (o.id, 0) hV.2.2.2.1 hp
        have hmid : m.id = o.id := by have : (m.id, (0 : Int)) = (o.id, 0) := hmk; simpa using this
        have hmm := List.mem_of_getElem? hm
        have hcall : ∀ W, CAt W B vp vr c → B ≤ W.heap.size → Calls Try.prog 142 #[.agg #[vp, vr], o.val] W fun e w' => ∃ v1 v2, e = .returned (.tuple #[.agg #[v1, v2], .int .i64 0]) ∧ CNew w' W.heap.size v1 v2 ⟨setL c.ps { m with off := true }, c.rs⟩ ∧ Below W.heap.size W w' := by
          intro W hW hs
          obtain ⟨m2, hm2, hi2, hcl⟩ := setOff_ok hW hV hk hp hs
          have e : m2 = m := hV.2.2.2.1.one hm2 hmm (by show (m2.id, (0 : Int)) = (m.id, 0); rw [hmid, hi2])
          subst e
          exact hcl
        exact ⟨_, _, .inl ⟨.off m hok hk1 hmm hmid, val_setL' hV (.inl (by show has Mb.key (m.id, 0) c.ps = true; rw [hmid]; exact hp)) (hV.2.2.1 m hmm)⟩, (Do_2 h hV hk hk1 hok hB 0 (fun x v1 v2 => CNew x (w.heap.size + 1 + 1 + 1) v1 v2 ⟨setL c.ps { m with off := true }, c.rs⟩) (res_new _ _) (fun x u1 u2 v1 v2 hr => hr.setRow (Nat.lt_succ_self _) _) fun W hb hlt => (hcall W (h.below (hb.mono hB)) (Nat.le_trans hB hb.size)).mono fun e w' ⟨v1, v2, he, hn, hb2⟩ => ⟨v1, v2, he, hn.less (by omega), hb2⟩).mono
          fun e w' ⟨v1, v2, he, hn, hb2⟩ => ⟨v1, v2, he, hn.less (by omega), hb2⟩⟩
    · cases hp : has Mb.key (o.id, 0) c.ps with
      | false => exact ⟨_, _, .inl ⟨.none hok (by omega) (fun _ => hp) (fun h => by omega), val_nil⟩, (Do_3 h hV hk hk1 hok hB 6 (fun _ v1 v2 => v1 = .slice none 0 0 ∧ v2 = .slice none 0 0) res_zero (fun _ _ _ _ _ h => h) fun W hb hlt => (drop_none (h.below (hb.mono hB)) hV hk hp (Nat.le_trans hB hb.size)).mono fun e w' ⟨he, hb⟩ => ⟨_, _, he, ⟨rfl, rfl⟩, hb⟩).mono
          fun e w' ⟨v1, v2, he, ⟨e1, e2⟩, hb⟩ => ⟨v1, v2, he, by subst e1 e2; exact nil _ _, hb⟩⟩
      | true => exact ⟨_, _, .inl ⟨.drop hok hk1 hp, val_drop hV⟩, (Do_3 h hV hk hk1 hok hB 0 (fun x v1 v2 => CNew x (w.heap.size + 1 + 1 + 1) v1 v2 ⟨delM c.ps (o.id, 0), c.rs.filter fun r => !(r.peer == o.id)⟩) (res_new _ _) (fun x u1 u2 v1 v2 hr => hr.setRow (Nat.lt_succ_self _) _) fun W hb hlt => (drop_ok (h.below (hb.mono hB)) hV hk hp (Nat.le_trans hB hb.size)).mono fun e w' ⟨v1, v2, he, hn, hb2⟩ => ⟨v1, v2, he, hn.less (by omega), hb2⟩).mono
          fun e w' ⟨v1, v2, he, hn, hb2⟩ => ⟨v1, v2, he, hn.less (by omega), hb2⟩⟩
    · cases hp : has Mb.key (o.id, 0) c.ps with
      | false => exact ⟨_, _, .inl ⟨.none hok (by omega) (fun _ => hp) (fun h => by omega), val_nil⟩, (Do_4 h hV hk hk1 hok hB 6 (fun _ v1 v2 => v1 = .slice none 0 0 ∧ v2 = .slice none 0 0) res_zero (fun _ _ _ _ _ h => h) fun W hb hlt => (setRoute_none (h.below (hb.mono hB)) hV hk hp (Nat.le_trans hB hb.size)).mono fun e w' ⟨he, hb⟩ => ⟨_, _, he, ⟨rfl, rfl⟩, hb⟩).mono
          fun e w' ⟨v1, v2, he, ⟨e1, e2⟩, hb⟩ => ⟨v1, v2, he, by subst e1 e2; exact nil _ _, hb⟩⟩
      | true => exact ⟨_, _, .inl ⟨.route hok hk1 hp, val_route hV h2 (okO_pref hok) hp⟩, (Do_4 h hV hk hk1 hok hB 0 (fun x v1 v2 => CNew x (w.heap.size + 1 + 1 + 1) v1 v2 ⟨c.ps, setR c.rs ⟨o.addr, o.bits, o.id⟩⟩) (res_new _ _) (fun x u1 u2 v1 v2 hr => hr.setRow (Nat.lt_succ_self _) _) fun W hb hlt => (setRoute_ok (h.below (hb.mono hB)) hV hk hp (.inr (by omega)) (Nat.le_trans hB hb.size)).mono fun e w' ⟨v1, v2, he, hn, hb2⟩ => ⟨v1, v2, he, hn.less (by omega), hb2⟩).mono
          fun e w' ⟨v1, v2, he, hn, hb2⟩ => ⟨v1, v2, he, hn.less (by omega), hb2⟩⟩
    · cases hp : has Rt.key (o.addr, o.bits) c.rs with
      | false => exact ⟨_, _, .inl ⟨.none hok (by omega) (fun h => absurd hk1 h) (fun _ => hp), val_nil⟩, (Do_5 h hV hk hk1 hok hB 6 (fun _ v1 v2 => v1 = .slice none 0 0 ∧ v2 = .slice none 0 0) res_zero (fun _ _ _ _ _ h => h) fun W hb hlt => (block_none (h.below (hb.mono hB)) hV hk hp (Nat.le_trans hB hb.size)).mono fun e w' ⟨he, hb⟩ => ⟨_, _, he, ⟨rfl, rfl⟩, hb⟩).mono
          fun e w' ⟨v1, v2, he, ⟨e1, e2⟩, hb⟩ => ⟨v1, v2, he, by subst e1 e2; exact nil _ _, hb⟩⟩
      | true => exact ⟨_, _, .inl ⟨.block hok hk1 hp, val_block hV⟩, (Do_5 h hV hk hk1 hok hB 0 (fun x v1 v2 => CNew x (w.heap.size + 1 + 1 + 1) v1 v2 ⟨c.ps, delR c.rs (o.addr, o.bits)⟩) (res_new _ _) (fun x u1 u2 v1 v2 hr => hr.setRow (Nat.lt_succ_self _) _) fun W hb hlt => (block_ok (h.below (hb.mono hB)) hV hk hp (Nat.le_trans hB hb.size)).mono fun e w' ⟨v1, v2, he, hn, hb2⟩ => ⟨v1, v2, he, hn.less (by omega), hb2⟩).mono
          fun e w' ⟨v1, v2, he, hn, hb2⟩ => ⟨v1, v2, he, hn.less (by omega), hb2⟩⟩
end Go.Proofs.Ytlphmbefcbhhpaa.Cfg
