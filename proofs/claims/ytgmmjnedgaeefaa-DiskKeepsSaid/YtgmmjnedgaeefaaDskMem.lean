/- disk: a disk in memory: whose each block is, what stays when one of them is written. -/
import Derived.Test.YtgmmjnedgaeefaaDskPure
import Derived.Test.YtgmmjnedgaeefaaRow
import Derived.Maps.OwnSet
import Derived.StringKeys
namespace Go.Proofs.Ytgmmjnedgaeefaa.Dsk
open Go.RowKit Go.Maps Go.Sort

abbrev MD := DataW Unit
/-- How a pointer to a file reads: by its block. -/
def refElem (v : Value) : Option (MD × List MemPlace) :=
  match v with
  | .pointer none => some (.nil, [])
  | .pointer (some ⟨g, 0, none⟩) => some (.lit (.int .u64 (g : Int)), [])
  | _ => none
theorem refElem_ptr (g : Nat) : refElem (.pointer (some ⟨g, 0, none⟩)) = some (.lit (.int .u64 (g : Int)), []) := rfl
theorem refElem_inv {v : Value} {g : Nat} {ps : List MemPlace} (h : refElem v = some (.lit (.int .u64 (g : Int)), ps)) : v = .pointer (some ⟨g, 0, none⟩) := by
  unfold refElem at h
  split at h
  · simp at h
  · rename_i g'
    simp only [Option.some.injEq, Prod.mk.injEq, DataW.lit.injEq, Lit.int.injEq, true_and] at h
    obtain ⟨h, _⟩ := h
    have : g' = g := by omega
    subst this
    rfl
  · cases h
theorem refElem_nil {v : Value} {ps : List MemPlace} (h : refElem v = some (.nil, ps)) : v = .pointer none := by
  unfold refElem at h
  split at h
  · rfl
  · simp at h
  · cases h
theorem law_str : Keyed Try.prog 9 := string_keyed Try.underlying9
def sv (s : Name) : Value := .string ⟨s.toArray⟩
theorem key_str {s : Name} (h : s.length ≤ maxLen) : keyOf Try.prog 9 (sv s) = some (.string s) := by
  unfold sv
  rw [Go.WideMaps.keyOf_string_mk Try.underlying9 (by show s.toArray.size ≤ _; simpa using h)]

/-! ### what stays -/
/-- All blocks but those of S stay. -/
structure Keep (S : Nat → Prop) (w w' : World) : Prop where
  os : w'.os = w.os
  tape : w'.tape = w.tape
  output : w'.output = w.output
  size : w.heap.size ≤ w'.heap.size
  block : ∀ k, k < w.heap.size → ¬ S k → w'.heap[k]? = w.heap[k]?
theorem Keep.refl (S : Nat → Prop) (w : World) : Keep S w w := ⟨rfl, rfl, rfl, Nat.le_refl _, fun _ _ _ => rfl⟩
theorem Keep.transB {S S' : Nat → Prop} {a b c : World} (h : Keep S a b) (k : Keep S' b c) (hs : ∀ x, x < a.heap.size → S' x → S x) : Keep S a c :=
  ⟨k.os.trans h.os, k.tape.trans h.tape, k.output.trans h.output, Nat.le_trans h.size k.size,
   fun x hx hn => (k.block x (Nat.lt_of_lt_of_le hx h.size) (fun e => hn (hs x hx e))).trans (h.block x hx hn)⟩
theorem Keep.trans {S : Nat → Prop} {a b c : World} (h : Keep S a b) (k : Keep S b c) : Keep S a c := h.transB k fun _ _ e => e
theorem Keep.mono {S S' : Nat → Prop} {a b : World} (h : Keep S a b) (hs : ∀ x, x < a.heap.size → S x → S' x) : Keep S' a b :=
  ⟨h.os, h.tape, h.output, h.size, fun x hx hn => h.block x hx fun e => hn (hs x hx e)⟩
theorem Keep.of_grown {w w' : World} {row : Option Nat} (h : w.grownBy w' row) : Keep (fun x => some x = row) w w' := ⟨h.os, h.tape, h.output, h.size, fun k hk hn => h.block k hk hn⟩
theorem Keep.of_below {B : Nat} {w w' : World} (h : Below B w w') : Keep (fun x => B ≤ x) w w' := ⟨h.os, h.tape, h.output, h.size, fun k _ hn => h.block k (by omega)⟩
theorem Keep.of_new {w w' : World} (h : Below w.heap.size w w') (S : Nat → Prop) : Keep S w w' := (Keep.of_below h).mono fun x hx e => absurd hx (by omega)
theorem Keep.below {S : Nat → Prop} {B : Nat} {w w' : World} (h : Keep S w w') (hB : B ≤ w.heap.size) (hs : ∀ x, x < w.heap.size → S x → B ≤ x) : Below B w w' :=
  ⟨h.os, h.tape, h.output, h.size, fun k hk => h.block k (by omega) fun e => by have := hs k (by omega) e; omega⟩
theorem Keep.of_turned {w w' : World} {m : Nat} (h : w.mapTurned w' m) : Keep (fun x => x = m) w w' := by
  have := Keep.of_grown h.grown
  exact this.mono fun x _ e => by cases e; rfl
theorem Keep.alloc (w : World) (o : Obj) (S : Nat → Prop) : Keep S w (w.alloc o) := Keep.of_new ((Below.refl _ w).alloc (Nat.le_refl _) o) S
theorem Keep.setCell (w : World) (a : Addr) (v : Value) : Keep (fun x => x = a.block) w (w.setCell a v) :=
  ⟨rfl, rfl, rfl, by simp [World.setCell], fun k _ hn => Below.heap_setCell _ _ _ _ hn⟩
theorem Keep.setRow (w : World) (g : Nat) (cs : Array Value) : Keep (fun x => x = g) w (w.setRow g cs) :=
  ⟨rfl, rfl, rfl, by simp [World.setRow], fun k _ hn => setRow_other w g k cs hn⟩
theorem Keep.row {S : Nat → Prop} {w w' : World} {g : Nat} {cs : List Value} {t : TypeId} (h : Keep S w w') (hr : Row w g cs t) (hs : ¬ S g) : Row w' g cs t := by
  unfold Row
  rw [h.block g hr.lt hs]
  exact hr
theorem Keep.own {S : Nat → Prop} {w w' : World} {base : Nat} {v : Value} {l : List UInt8} (h : Keep S w w') (ho : Own w base v l) (hs : ∀ b, v.ownBlock = some b → ¬ S b) : Own w' base v l := by
  refine ⟨ho.1, ?_⟩
  rcases ho.2 with h2 | ⟨g, cap, cur, e, hg, hgg, r⟩
  · exact .inl h2
  · refine .inr ⟨g, cap, cur, e, hg, ?_, r⟩
    rw [h.block g (Array.getElem?_eq_some_iff.1 hgg).1 (hs g (by rw [e]; rfl))]
    exact hgg
theorem Keep.map {S : Nat → Prop} {w w' : World} {m n : Nat} {D : MD} (h : Keep S w w') (ho : w.ownsMap Try.prog 9 refElem m n D) (hs : ¬ S m) : w'.ownsMap Try.prog 9 refElem m n D := by
  obtain ⟨es, clock, hb, r⟩ := ho
  refine ⟨es, clock, ?_, r⟩
  rw [h.block m (Array.getElem?_eq_some_iff.1 hb).1 hs]
  exact hb
theorem Keep.bs {S : Nat → Prop} {w w' : World} {B : Nat} {v : Value} {l : List UInt8} (h : Keep S w w') (hb : Bs w B v l) (hB : B ≤ w.heap.size) (hs : ∀ b, b < B → ¬ S b) : Bs w' B v l :=
  hb.keep fun b o hlt => World.cell?_of_block (a := ⟨b, o, none⟩) (h.block b (by omega) (hs b hlt))

/-! ### a file, a disk -/
abbrev Lab := Nat → Option (Nat × Name)
structure FileAt (w : World) (L : Lab) (s : Name) (g : Nat) (F : Fil) : Prop where
  lab : L g = some (2, s)
  is : ∃ vs vf, Row w g [vs, vf, .bool F.syn] 62 ∧ Own w 0 vs F.safe ∧ (∀ b, vs.ownBlock = some b → L b = some (3, s)) ∧ Own w 0 vf F.fresh ∧ (∀ b, vf.ownBlock = some b → L b = some (4, s))
theorem FileAt.keep {S : Nat → Prop} {w w' : World} {L L' : Lab} {s : Name} {g : Nat} {F : Fil} (h : FileAt w L s g F) (hk : Keep S w w') (hS : ∀ b j, L b = some (j, s) → 2 ≤ j → ¬ S b) (hL : ∀ b l, L b = some l → L' b = some l) : FileAt w' L' s g F := by
  obtain ⟨h1, vs, vf, h2, h3, h4, h5, h6⟩ := h
  exact ⟨hL _ _ h1, vs, vf, hk.row h2 (hS _ _ h1 (by omega)), hk.own h3 (fun b hb => hS _ _ (h4 b hb) (by omega)), fun b hb => hL _ _ (h4 b hb), hk.own h5 (fun b hb => hS _ _ (h6 b hb) (by omega)), fun b hb => hL _ _ (h6 b hb)⟩
/-- Where the files of a map are. -/
structure Files (w : World) (L : Lab) (m : Nat) (D : MD) (l : Fs) : Prop where
  map : w.ownsMap Try.prog 9 refElem m (Maps.size D) D
  nodup : (keys l).Nodup
  has : ∀ s, s ∈ keys l ↔ Maps.has D (.string s) = true
  file : ∀ s F, (s, F) ∈ l → ∃ g : Nat, D.atKey (.string s) .nil = .lit (.int .u64 (g : Int)) ∧ FileAt w L s g F
theorem Files.perm {w : World} {L : Lab} {m : Nat} {D : MD} {l : Fs} (h : Files w L m D l) : (keys l).Perm (strKeys D) := by
  obtain ⟨es, hD, hk⟩ := h.map.keysOf
  obtain ⟨es', hD', hp⟩ := h.map.tidy law_str
  rw [hD] at hD'
  cases hD'
  rw [hD]
  refine perm_strKeys hp (fun p hp' => ?_) h.nodup fun x => ?_
  · obtain ⟨v, hv⟩ := hk p hp'
    obtain ⟨x, _, hx, _⟩ := Maps.keyOf_str Try.underlying9 hv
    exact ⟨x, hx⟩
  · rw [← hD]; exact h.has x
theorem Files.size {w : World} {L : Lab} {m : Nat} {D : MD} {l : Fs} (h : Files w L m D l) : Maps.size D = l.length := by
  have h1 := h.perm.length_eq
  obtain ⟨es, hD, _⟩ := h.map.keysOf
  subst hD
  simp only [keys, strKeys, List.length_map] at h1
  rw [Maps.size_eq]
  exact h1.symm
theorem Files.found {w : World} {L : Lab} {m : Nat} {D : MD} {l : Fs} (h : Files w L m D l) {s : Name} {F : Fil} (hs : look l s = some F) : ∃ g : Nat, D.atKey (.string s) .nil = .lit (.int .u64 (g : Int)) ∧ Maps.has D (.string s) = true ∧ FileAt w L s g F := by
  obtain ⟨g, h1, h2⟩ := h.file s F (look_some hs)
  exact ⟨g, h1, (h.has s).1 (look_key hs), h2⟩
theorem Files.gone {w : World} {L : Lab} {m : Nat} {D : MD} {l : Fs} (h : Files w L m D l) {s : Name} (hs : look l s = none) : D.atKey (.string s) .nil = .nil ∧ Maps.has D (.string s) = false := by
  have h1 : Maps.has D (.string s) = false := by
    cases hh : Maps.has D (.string s) with
    | false => rfl
    | true => exact absurd ((h.has s).2 hh) (look_none.1 hs)
  exact ⟨atKey_of_not_has h1 _, h1⟩
theorem Files.keep {S : Nat → Prop} {w w' : World} {L L' : Lab} {m : Nat} {D : MD} {l : Fs} (h : Files w L m D l) (hk : Keep S w w') (hm : ¬ S m) (hS : ∀ b j s, L b = some (j, s) → 2 ≤ j → ¬ S b) (hL : ∀ b l, L b = some l → L' b = some l) : Files w' L' m D l :=
  ⟨hk.map h.map hm, h.nodup, h.has, fun s F hsF => by
    obtain ⟨g, h1, h2⟩ := h.file s F hsF
    exact ⟨g, h1, h2.keep hk (fun b j hb hj => hS b j s hb hj) hL⟩⟩
/-- One file is another from now on, at the same place. -/
theorem Files.write {S : Nat → Prop} {w w' : World} {L L' : Lab} {m : Nat} {D : MD} {l : Fs} {s : Name} {F : Fil} {g : Nat} (h : Files w L m D l) (hk : Keep S w w') (hm : ¬ S m) (hS : ∀ b j t, L b = some (j, t) → 2 ≤ j → t ≠ s → ¬ S b) (hL : ∀ b l, L b = some l → L' b = some l)
    (hs : s ∈ keys l) (hg : D.atKey (.string s) .nil = .lit (.int .u64 (g : Int))) (hF : FileAt w' L' s g F) : Files w' L' m D (put l s F) := by
  refine ⟨hk.map h.map hm, nodup_put h.nodup, fun t => ?_, fun t G ht => ?_⟩
  · rw [keys_put_old hs]; exact h.has t
  · rcases mem_put h.nodup ht with ⟨rfl, rfl⟩ | ⟨hne, ht⟩
    · exact ⟨g, hg, hF⟩
    · obtain ⟨g', h1, h2⟩ := h.file t G ht
      exact ⟨g', h1, h2.keep hk (fun b j hb hj => hS b j t hb hj hne) hL⟩
theorem tight {w : World} {m n : Nat} {D : MD} (h : w.ownsMap Try.prog 9 refElem m n D) : w.ownsMap Try.prog 9 refElem m (Maps.size D) D := by
  obtain ⟨es, clock, hb, F, _, rfl⟩ := h
  exact ⟨es, clock, hb, F, by simp [Maps.size, length_sorted], rfl⟩
/-- A new file. -/
theorem Files.add {w : World} {L : Lab} {m n : Nat} {D : MD} {l : Fs} {s : Name} {F : Fil} {g : Nat} (hD : IsMap D) (hm : w.ownsMap Try.prog 9 refElem m n (D.put (.string s) (.lit (.int .u64 (g : Int))))) (hn : (keys l).Nodup) (hh : ∀ s, s ∈ keys l ↔ Maps.has D (.string s) = true)
    (hf : ∀ t G, (t, G) ∈ l → t ≠ s → ∃ g : Nat, D.atKey (.string t) .nil = .lit (.int .u64 (g : Int)) ∧ FileAt w L t g G) (hF : FileAt w L s g F) : Files w L m (D.put (.string s) (.lit (.int .u64 (g : Int)))) (put l s F) := by
  refine ⟨tight hm, nodup_put hn, fun t => ?_, fun t G ht => ?_⟩
  · by_cases hts : t = s
    · subst hts
      simp only [has_put_same hD (show WideAt.IsKeyLit (.string t) from trivial), iff_true]
      exact look_key (look_put_same l t F)
    · rw [has_put_other (by simpa using hts), ← hh t]
      by_cases hs : s ∈ keys l
      · rw [keys_put_old hs]
      · rw [keys_put_new hs]; simp [hts]
  · rcases mem_put hn ht with ⟨rfl, rfl⟩ | ⟨hne, ht⟩
    · exact ⟨g, atKey_put_same hD (show WideAt.IsKeyLit (.string t) from trivial) _ _, hF⟩
    · obtain ⟨g', h1, h2⟩ := hf t G ht hne
      exact ⟨g', by rw [atKey_put_other (by simpa using hne)]; exact h1, h2⟩
theorem Files.drop {w : World} {L : Lab} {m n : Nat} {D : MD} {l : Fs} {s : Name} (hm : w.ownsMap Try.prog 9 refElem m n (D.del (.string s))) (hn : (keys l).Nodup) (hh : ∀ s, s ∈ keys l ↔ Maps.has D (.string s) = true)
    (hf : ∀ t G, (t, G) ∈ l → ∃ g : Nat, D.atKey (.string t) .nil = .lit (.int .u64 (g : Int)) ∧ FileAt w L t g G) : Files w L m (D.del (.string s)) (del l s) := by
  refine ⟨tight hm, nodup_del hn, fun t => ?_, fun t G ht => ?_⟩
  · rw [keys_del, List.mem_filter, decide_eq_true_eq]
    by_cases hts : t = s
    · subst hts
      simp [has_del_same]
    · rw [has_del_other (by simpa using hts), ← hh t]
      simp [hts]
  · obtain ⟨hne, ht⟩ := mem_del.1 ht
    obtain ⟨g', h1, h2⟩ := hf t G ht
    exact ⟨g', by rw [atKey_del_other (by simpa using hne)]; exact h1, h2⟩
/-- A disk at p; its blocks lie from B on. -/
structure At (w : World) (B : Nat) (L : Lab) (p : Nat) (d : Dk) : Prop where
  lab : ∀ b, L b ≠ none → B ≤ b ∧ b < w.heap.size
  lp : L p = some (0, [])
  is : ∃ m D, L m = some (1, []) ∧ Row w p [.map (some m), .int .i64 d.left, .bool d.off, .int .i64 d.fuse] 58 ∧ Files w L m D d.files
/-- What an operation of a disk leaves alone. -/
structure Step (L L' : Lab) (w w' : World) : Prop where
  keep : Keep (fun b => L b ≠ none) w w'
  lab : ∀ b, b < w.heap.size → L' b = L b
theorem Step.refl (L : Lab) (w : World) : Step L L w w := ⟨Keep.refl _ _, fun _ _ => rfl⟩
theorem Step.trans {L L' L'' : Lab} {a b c : World} (h : Step L L' a b) (k : Step L' L'' b c) : Step L L'' a c :=
  ⟨h.keep.transB k.keep fun x hx e => by rw [h.lab x hx] at e; exact e, fun x hx => (k.lab x (Nat.lt_of_lt_of_le hx h.keep.size)).trans (h.lab x hx)⟩
theorem Step.new {L : Lab} {w w' : World} (h : Below w.heap.size w w') : Step L L w w' := ⟨Keep.of_new h _, fun _ _ => rfl⟩
theorem At.size {w : World} {B : Nat} {L : Lab} {p : Nat} {d : Dk} (h : At w B L p d) : B ≤ w.heap.size := by
  have := h.lab p (by rw [h.lp]; simp)
  omega
theorem Step.below {w w' : World} {B : Nat} {L L' : Lab} {p : Nat} {d : Dk} (h : At w B L p d) (k : Step L L' w w') : Below B w w' := k.keep.below h.size fun x _ e => (h.lab x e).1
/-- Nothing of the disk is written. -/
theorem At.keep {S : Nat → Prop} {w w' : World} {B : Nat} {L : Lab} {p : Nat} {d : Dk} (h : At w B L p d) (hk : Keep S w w') (hS : ∀ b, L b ≠ none → ¬ S b) : At w' B L p d := by
  obtain ⟨h1, h2, m, D, h3, h4, h5⟩ := h
  exact ⟨fun b hb => ⟨(h1 b hb).1, Nat.lt_of_lt_of_le (h1 b hb).2 hk.size⟩, h2, m, D, h3, hk.row h4 (hS _ (by rw [h2]; simp)), h5.keep hk (hS _ (by rw [h3]; simp)) (fun b j s hb _ => hS b (by rw [hb]; simp)) fun _ _ e => e⟩
theorem At.new {w w' : World} {B : Nat} {L : Lab} {p : Nat} {d : Dk} (h : At w B L p d) (hb : Below w.heap.size w w') : At w' B L p d := h.keep (Keep.of_new hb fun _ => False) fun _ _ e => e
end Go.Proofs.Ytgmmjnedgaeefaa.Dsk
