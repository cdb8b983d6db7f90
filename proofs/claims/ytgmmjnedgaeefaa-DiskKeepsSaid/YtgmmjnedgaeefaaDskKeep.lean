/- disk: what operations and crashes leave of a file, in plain terms. -/
import Derived.Test.YtgmmjnedgaeefaaDskApart
namespace Go.Proofs.Ytgmmjnedgaeefaa.Dsk
open Go.Sort
theorem op_none {k : Int} {d : Dk} {a : Ac} (h : opE k d a ≠ 0) : (opD k d a).files = d.files := by
  have hb := begD_files (okName a.name) d
  unfold opE at h
  unfold opD
  by_cases k2 : k = 2
  · simp only [k2, true_or, if_true] at h ⊢
    rw [synD, if_pos h, hb]
  · by_cases k3 : k = 3
    · simp only [k3, or_true, if_true] at h ⊢
      rw [if_neg (by decide), remD, if_pos h, hb]
    · rw [if_neg (by simp [k2, k3])] at h
      rw [if_neg k2, if_neg k3, appD, if_pos h, hb]
theorem look_op {k : Int} {d : Dk} {a : Ac} (h : opE k d a = 0) (t : Name) : look (opD k d a).files t = if t = a.name then opF k (look d.files a.name) a.b else look d.files t := by
  unfold opE at h
  unfold opD opF
  by_cases k2 : k = 2
  · simp only [k2, true_or, if_true] at h ⊢
    have h0 : ¬ synE (okName a.name) d a.name ≠ 0 := fun e => e h
    rw [synD, if_neg h0]
    cases hl : look d.files a.name with
    | none => simp [synE, hl] at h
              split at h <;> simp_all
    | some F =>
      by_cases ht : t = a.name
      · subst ht; simp [look_put_same, olds, hl]
      · simp [look_put_other _ _ ht, ht]
  · by_cases k3 : k = 3
    · simp only [k3, or_true, if_true] at h ⊢
      have h0 : ¬ synE (okName a.name) d a.name ≠ 0 := fun e => e h
      have n32 : ¬ (3 : Int) = 2 := by decide
      simp only [n32, if_false, if_true, eq_self]
      rw [remD, if_neg h0]
      by_cases ht : t = a.name
      · subst ht; simp [look_del_same]
      · simp [look_del_other _ ht, ht]
    · rw [if_neg (by simp [k2, k3])] at h
      have h0 : ¬ appE (okName a.name) d a.b ≠ 0 := fun e => e h
      rw [if_neg k2, if_neg k3, if_neg k2, if_neg k3, appD, if_neg h0]
      by_cases ht : t = a.name
      · subst ht; simp [look_put_same, olds]
      · simp [look_put_other _ _ ht, ht]
/-- What a disk answers of each name: all its bytes, and what was there when it was synced last. -/
def allOf (l : Fs) (t : Name) : Option Name := (look l t).map Fil.all
def synOf (l : Fs) (t : Name) : Option Name := (look l t).bind fun F => if F.syn = true then some F.safe else none
theorem sync_all (F : Fil) : F.sync.all = F.all := by simp [Fil.sync, Fil.all]
theorem allOf_op {k : Int} {d : Dk} {a : Ac} (h : opE k d a = 0) (t : Name) : allOf (opD k d a).files t = if t = a.name then (if k = 2 then allOf d.files a.name else if k = 3 then none else some ((allOf d.files a.name).getD [] ++ a.b)) else allOf d.files t := by
  unfold allOf
  rw [look_op h]
  by_cases ht : t = a.name
  · simp only [if_pos ht, opF]
    by_cases k2 : k = 2
    · simp only [if_pos k2]
      cases look d.files a.name with
      | none => rfl
      | some F => simp [sync_all]
    · by_cases k3 : k = 3
      · simp [k3]
      · simp only [if_neg k2, if_neg k3]
        cases look d.files a.name with
        | none => simp [addF, Fil.all]
        | some F => simp [addF, Fil.all]
  · simp only [if_neg ht]
theorem synOf_op {k : Int} {d : Dk} {a : Ac} (h : opE k d a = 0) (t : Name) : synOf (opD k d a).files t = if t = a.name then (if k = 2 then some ((allOf d.files a.name).getD []) else if k = 3 then none else synOf d.files a.name) else synOf d.files t := by
  have h' := h
  unfold opE at h'
  unfold synOf allOf
  rw [look_op h]
  by_cases ht : t = a.name
  · simp only [if_pos ht, opF]
    by_cases k2 : k = 2
    · simp only [if_pos k2]
      cases hl : look d.files a.name with
      | none =>
        rw [if_pos (.inl k2)] at h'
        simp [synE, hl] at h'
        split at h' <;> simp_all
      | some F => simp [Fil.sync, Fil.all]
    · by_cases k3 : k = 3
      · simp [k3]
      · simp only [if_neg k2, if_neg k3]
        cases look d.files a.name with
        | none => simp [addF]
        | some F => simp [addF]
  · simp only [if_neg ht]
/-- What a crash makes of a file. -/
def crashP (F : Fil) (part : Int) : Option Fil := if (F.crash part).lasts = true then some (F.crash part) else none
theorem crash1_part {l : Fs} {s : Name} {F : Fil} (part : Int) (hl : look l s = some F) : look (crash1 l s part) s = crashP F part := by
  unfold crash1 crashP
  simp only [olds, hl, Option.getD_some]
  split
  · exact look_put_same _ _ _
  · exact look_del_same _ _
theorem look_parts {l : Fs} {ps : List Int} (t : Name) {ns : List Name} (hnd : ns.Nodup) (hk : ∀ s ∈ ns, s ∈ keys l) : ∀ j, j ≤ ns.length → (t ∉ ns.take j ∧ look (crF ns ps l j) t = look l t) ∨ (t ∈ ns.take j ∧ ∃ F part, look l t = some F ∧ look (crF ns ps l j) t = crashP F part)
  | 0, _ => .inl ⟨by simp, rfl⟩
  | j + 1, hj => by
    have ih := look_parts (l := l) (ps := ps) t hnd hk j (by omega)
    have hg : ns[j]? = some (ns.getD j []) := getD_at (by omega) _
    have hm : ns.getD j [] ∈ ns := List.mem_of_getElem? hg
    have e : crF ns ps l (j + 1) = crash1 (crF ns ps l j) (ns.getD j []) (ps.getD j 0) := rfl
    rw [e, List.take_add_one, hg]
    by_cases ht : t = ns.getD j []
    · right
      refine ⟨by rw [ht]; simp, ?_⟩
      obtain ⟨F, hF⟩ := look_is (hk _ hm)
      refine ⟨F, ps.getD j 0, by rw [ht]; exact hF, ?_⟩
      have h1 : look (crF ns ps l j) (ns.getD j []) = some F := by rw [crF_at ns hnd ps l (by omega), hF]
      rw [ht]
      exact crash1_part _ h1
    · rw [crash1_other _ ht]
      rcases ih with ⟨h1, h2⟩ | ⟨h1, h2⟩
      · exact .inl ⟨by simp only [Option.toList_some, List.mem_append, List.mem_singleton, not_or]; exact ⟨h1, ht⟩, h2⟩
      · exact .inr ⟨List.mem_append_left _ h1, h2⟩
theorem look_crashed {d : Dk} (ps : List Int) (hn : (keys d.files).Nodup) (t : Name) : look d.files t = none ∧ look (crashD d ps).files t = none ∨ ∃ F part, look d.files t = some F ∧ look (crashD d ps).files t = crashP F part := by
  have h := look_parts (l := d.files) (ps := ps) t (names_nodup hn) (fun s hs => mem_names.1 hs) (names d.files).length (Nat.le_refl _)
  rw [List.take_length] at h
  rcases h with ⟨h1, h2⟩ | ⟨_, h2⟩
  · have h3 : look d.files t = none := look_none.2 fun e => h1 (mem_names.2 e)
    exact .inl ⟨h3, h2.trans h3⟩
  · exact .inr h2
/-- What a crash keeps begins all that there was, and keeps what was synced. -/
theorem crashed_all {d : Dk} {ps : List Int} (hn : (keys d.files).Nodup) {t : Name} {G : Fil} (h : look (crashD d ps).files t = some G) : ∃ all, allOf d.files t = some all ∧ G.all.length ≤ all.length ∧ all.take G.all.length = G.all ∧ ((synOf d.files t).getD []).length ≤ G.all.length := by
  rcases look_crashed ps hn t with ⟨_, h2⟩ | ⟨F, part, h1, h2⟩
  · rw [h2] at h; cases h
  · rw [h2] at h
    unfold crashP at h
    split at h
    · cases h
      have e : (F.crash part).all = F.safe ++ F.fresh.take (keepsOf F part) := by simp [Fil.all, Fil.crash]
      refine ⟨F.all, by simp [allOf, h1], ?_, ?_, ?_⟩
      · rw [e]; simp only [Fil.all, List.length_append, List.length_take]; omega
      · rw [e, Fil.all, List.length_append, List.take_append, List.length_take]
        rw [List.take_of_length_le (by omega)]
        congr 1
        rw [show F.safe.length + min (keepsOf F part) F.fresh.length - F.safe.length = min (keepsOf F part) F.fresh.length by omega]
        rcases Nat.le_total (keepsOf F part) F.fresh.length with h5 | h5
        · rw [Nat.min_eq_left h5]
        · rw [Nat.min_eq_right h5, List.take_of_length_le h5, List.take_length]
      · rw [e]
        simp only [synOf, h1, Option.bind_some, List.length_append]
        split <;> simp
    · cases h
theorem crashed_syn {d : Dk} {ps : List Int} (hn : (keys d.files).Nodup) {t : Name} (h : synOf d.files t ≠ none) : t ∈ names (crashD d ps).files := by
  rw [mem_names]
  rcases look_crashed ps hn t with ⟨h1, _⟩ | ⟨F, part, h1, h2⟩
  · simp [synOf, h1] at h
  · have hs : F.syn = true := by
      cases hF : F.syn with
      | true => rfl
      | false => simp [synOf, h1, hF] at h
    have : (F.crash part).lasts = true := by simp [Fil.lasts, Fil.crash, hs]
    rw [crashP, if_pos this] at h2
    exact look_key h2
/-- A disk none of whose bytes a crash can lose. -/
def Clean (l : Fs) : Prop := ∀ t F, look l t = some F → F.fresh = [] ∧ F.lasts = true
theorem crashed_clean {d : Dk} {ps : List Int} (hn : (keys d.files).Nodup) : Clean (crashD d ps).files := fun t G h => by
  rcases look_crashed ps hn t with ⟨_, h2⟩ | ⟨F, part, h1, h2⟩
  · rw [h2] at h; cases h
  · rw [h2] at h
    unfold crashP at h
    split at h
    · rename_i hl
      cases h
      exact ⟨rfl, hl⟩
    · cases h
theorem put_look : ∀ {l : Fs} {s : Name} {F : Fil}, look l s = some F → put l s F = l
  | [], s, F, h => by simp [look] at h
  | x :: r, s, F, h => by
    unfold look at h
    unfold put
    split at h
    · rename_i hx
      cases h
      rw [if_pos hx, ← hx]
    · rename_i hx
      rw [if_neg hx, put_look h]
theorem crash1_clean {l : Fs} {s : Name} {F : Fil} (part : Int) (hl : look l s = some F) (h : F.fresh = [] ∧ F.lasts = true) : crash1 l s part = l := by
  have e : F.crash part = F := by
    obtain ⟨sf, fr, sy⟩ := F
    have : fr = [] := h.1
    subst this
    simp [Fil.crash]
  unfold crash1
  simp only [olds, hl, Option.getD_some, e, h.2, if_true]
  exact put_look hl
theorem crF_clean {l : Fs} {ps : List Int} {ns : List Name} (h : Clean l) (hk : ∀ s ∈ ns, s ∈ keys l) : ∀ j, j ≤ ns.length → crF ns ps l j = l
  | 0, _ => rfl
  | j + 1, hj => by
    have hg : ns[j]? = some (ns.getD j []) := getD_at (by omega) _
    obtain ⟨F, hF⟩ := look_is (hk _ (List.mem_of_getElem? hg))
    show crash1 (crF ns ps l j) _ _ = l
    rw [crF_clean h hk j (by omega)]
    exact crash1_clean _ hF (h _ _ hF)
theorem crash_clean {d : Dk} {ps : List Int} (h : Clean d.files) : (crashD d ps).files = d.files :=
  crF_clean h (fun s hs => mem_names.1 hs) _ (Nat.le_refl _)
theorem crashed_total {d : Dk} (ps : List Int) (hn : (keys d.files).Nodup) : total (crashD d ps).files ≤ total d.files :=
  crF_total_le (names d.files) ps d.files hn (names_nodup hn) (fun s hs => mem_names.1 hs) _ (Nat.le_refl _)
/-- What Safe gives. -/
def safeOne (l : Fs) (s : Name) : Option (Name × List UInt8) := (look l s).bind fun F => if F.lasts = true then some (s, F.safe) else none
def safesOf (l : Fs) : List (Name × List UInt8) := (names l).filterMap (safeOne l)
theorem crD_len {l : Fs} {ns : List Name} {ps : List Int} (hk : ∀ s ∈ ns, s ∈ keys l) (hnd : ns.Nodup) : ∀ j, j ≤ ns.length → (crF ns ps l j).length ≤ l.length
  | 0, _ => Nat.le_refl _
  | j + 1, hj => by
    have ih := crD_len (l := l) (ps := ps) hk hnd j (by omega)
    have hg : ns[j]? = some (ns.getD j []) := getD_at (by omega) _
    obtain ⟨F, hF⟩ := look_is (hk _ (List.mem_of_getElem? hg))
    have h1 : look (crF ns ps l j) (ns.getD j []) = some F := by rw [crF_at ns hnd ps l (by omega), hF]
    have h2 : (crash1 (crF ns ps l j) (ns.getD j []) (ps.getD j 0)).length ≤ (crF ns ps l j).length := by
      unfold crash1
      simp only
      split
      · have := congrArg List.length (keys_put_old (F := (olds (crF ns ps l j) (ns.getD j [])).crash (ps.getD j 0)) (look_key h1))
        simp only [keys, List.length_map] at this
        omega
      · exact del_len _ _
    show (crash1 _ _ _).length ≤ _
    omega
theorem crashed_len {d : Dk} (ps : List Int) (hn : (keys d.files).Nodup) : (crashD d ps).files.length ≤ d.files.length :=
  crD_len (fun s hs => mem_names.1 hs) (names_nodup hn) _ (Nat.le_refl _)
end Go.Proofs.Ytgmmjnedgaeefaa.Dsk
