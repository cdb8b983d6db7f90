/- disk: what operations keep, in plain terms. -/
import Derived.Test.YtgmmjnedgaeefaaDskCallAt
namespace Go.Proofs.Ytgmmjnedgaeefaa.Dsk
open Go.Sort
theorem begE_cases (ok : Bool) (d : Dk) : (ok = false ∧ begE ok d = 2) ∨ (ok = true ∧ (d.fuse = 0 ∨ d.off = true) ∧ begE ok d = 11) ∨ (ok = true ∧ d.fuse ≠ 0 ∧ d.off = false ∧ begE ok d = 0) := by
  cases ok with
  | false => exact .inl ⟨rfl, by simp [begE]⟩
  | true =>
    by_cases h1 : d.fuse = 0
    · exact .inr (.inl ⟨rfl, .inl h1, by simp [begE, h1]⟩)
    · cases h2 : d.off with
      | true => exact .inr (.inl ⟨rfl, .inr rfl, by simp [begE, h2]⟩)
      | false => exact .inr (.inr ⟨rfl, h1, rfl, by simp [begE, h1, h2]⟩)
theorem opE_cases (k : Int) (d : Dk) (a : Ac) : (begE (okName a.name) d ≠ 0 ∧ opE k d a = begE (okName a.name) d) ∨ (begE (okName a.name) d = 0 ∧ (opE k d a = 0 ∨ opE k d a = 6 ∨ opE k d a = 9)) := by
  by_cases h : begE (okName a.name) d = 0
  · refine .inr ⟨h, ?_⟩
    have hn : ¬ begE (okName a.name) d ≠ 0 := fun e => e h
    unfold opE
    by_cases hk : k = 2 ∨ k = 3
    · rw [if_pos hk]
      unfold synE
      rw [if_neg hn]
      by_cases hl : look d.files a.name = none
      · rw [if_pos hl]; exact .inr (.inl rfl)
      · rw [if_neg hl]; exact .inl rfl
    · rw [if_neg hk]
      unfold appE
      rw [if_neg hn]
      by_cases hl : d.left < a.b.length
      · rw [if_pos hl]; exact .inr (.inr rfl)
      · rw [if_neg hl]; exact .inl rfl
  · refine .inl ⟨h, ?_⟩
    unfold opE synE appE
    rw [if_pos h, if_pos h]
    split <;> rfl
theorem synD_fuse (ok : Bool) (d : Dk) (s : Name) : (synD ok d s).fuse = (begD ok d).fuse ∧ (synD ok d s).off = (begD ok d).off := by unfold synD; split <;> exact ⟨rfl, rfl⟩
theorem remD_fuse (ok : Bool) (d : Dk) (s : Name) : (remD ok d s).fuse = (begD ok d).fuse ∧ (remD ok d s).off = (begD ok d).off := by unfold remD; split <;> exact ⟨rfl, rfl⟩
theorem appD_fuse (ok : Bool) (d : Dk) (s : Name) (b : List UInt8) : (appD ok d s b).fuse = (begD ok d).fuse ∧ (appD ok d s b).off = (begD ok d).off := by unfold appD; split <;> exact ⟨rfl, rfl⟩
theorem opD_fuse (k : Int) (d : Dk) (a : Ac) : (opD k d a).fuse = (begD (okName a.name) d).fuse ∧ (opD k d a).off = (begD (okName a.name) d).off := by
  unfold opD
  split
  · exact synD_fuse _ _ _
  · split
    · exact remD_fuse _ _ _
    · exact appD_fuse _ _ _ _
theorem put_len (l : Fs) (s : Name) (F : Fil) : (put l s F).length ≤ l.length + 1 := by
  induction l with
  | nil => simp [put]
  | cons x r ih =>
    unfold put
    split
    · simp
    · simp only [List.length_cons]; omega
theorem del_len (l : Fs) (s : Name) : (del l s).length ≤ l.length := List.length_filter_le _ _
theorem opD_len (k : Int) (d : Dk) (a : Ac) : (opD k d a).files.length ≤ d.files.length + 1 := by
  have hb := begD_files (okName a.name) d
  unfold opD synD remD appD
  repeat' split
  all_goals first | (rw [hb]; omega) | exact put_len _ _ _ | (have := del_len d.files a.name; simp only; omega)
theorem opD_sum (k : Int) (d : Dk) (a : Ac) (hn : (keys d.files).Nodup) : (opD k d a).left + (total (opD k d a).files : Int) = d.left + (total d.files : Int) ∧ (0 ≤ d.left → 0 ≤ (opD k d a).left) := by
  have hb := begD_files (okName a.name) d
  have hl := begD_left (okName a.name) d
  unfold opD
  split
  · unfold synD
    split
    · rw [hb, hl]; exact ⟨rfl, id⟩
    · rename_i h
      simp only [ne_eq, Decidable.not_not] at h
      simp only [synE] at h
      split at h
      · rename_i h2; exact absurd h h2
      · split at h
        · cases h
        · rename_i h3
          cases hlk : look d.files a.name with
          | none => exact absurd hlk h3
          | some F =>
            have := total_put_old (G := (olds d.files a.name).sync) hlk
            have e : (olds d.files a.name).sync.all.length = F.all.length := by simp [olds, hlk, Fil.sync, Fil.all]
            simp only [hl]
            exact ⟨by omega, id⟩
  · split
    · unfold remD
      split
      · rw [hb, hl]; exact ⟨rfl, id⟩
      · rename_i h
        simp only [ne_eq, Decidable.not_not] at h
        simp only [synE] at h
        split at h
        · rename_i h2; exact absurd h h2
        · split at h
          · cases h
          · rename_i h3
            cases hlk : look d.files a.name with
            | none => exact absurd hlk h3
            | some F =>
              have := total_del hn hlk
              have e : (olds d.files a.name).all.length = F.all.length := by simp [olds, hlk]
              exact ⟨by simp only; omega, fun h => by simp only; omega⟩
    · unfold appD
      split
      · rw [hb, hl]; exact ⟨rfl, id⟩
      · rename_i h
        simp only [ne_eq, Decidable.not_not] at h
        have hroom : ¬ d.left < a.b.length := by
          intro hlt
          simp only [appE] at h
          split at h
          · rename_i h2; exact h2 h
          · first | (rw [if_pos hlt] at h; cases h) | cases h | omega
        cases hlk : look d.files a.name with
        | none =>
          have := total_put_new (G := addF (olds d.files a.name) a.b) hlk
          have e : (addF (olds d.files a.name) a.b).all.length = a.b.length := by simp [olds, hlk, addF, Fil.all]
          exact ⟨by simp only; omega, fun _ => by simp only; omega⟩
        | some F =>
          have := total_put_old (G := addF (olds d.files a.name) a.b) hlk
          have e : (addF (olds d.files a.name) a.b).all.length = F.all.length + a.b.length := by simp [olds, hlk, addF, Fil.all]; omega
          exact ⟨by simp only; omega, fun _ => by simp only; omega⟩
/-- What the law's count and the fuse say of each other. -/
def Fz (d : Dk) (n : Int) : Prop := (0 ≤ n ∧ d.off = false ∧ d.fuse = n) ∨ (n < 0 ∧ d.off = true ∧ d.fuse = 0)
theorem Fz.same {d : Dk} {n : Int} (h : Fz d n) (k : Int) (a : Ac) (he : opE k d a = 2) : Fz (opD k d a) n := by
  obtain ⟨h1, h2⟩ := opD_fuse k d a
  have hok : okName a.name = false := by
    rcases begE_cases (okName a.name) d with ⟨h3, h4⟩ | ⟨h3, _, h4⟩ | ⟨h3, _, _, h4⟩
    · exact h3
    all_goals
      exfalso
      rcases opE_cases k d a with ⟨h5, h6⟩ | ⟨h5, h6⟩ <;> omega
  unfold Fz
  rw [h1, h2, hok]
  simpa [begD, Fz] using h
theorem Fz.next {d : Dk} {n : Int} (h : Fz d n) (k : Int) (a : Ac) (he : opE k d a ≠ 2) : (opE k d a = 11 ↔ n ≤ 0) ∧ Fz (opD k d a) (n - 1) := by
  obtain ⟨h1, h2⟩ := opD_fuse k d a
  rcases begE_cases (okName a.name) d with ⟨h3, h4⟩ | ⟨h3, h5, h4⟩ | ⟨h3, h5, h6, h4⟩
  · exfalso
    rcases opE_cases k d a with ⟨h5, h6⟩ | ⟨h5, h6⟩ <;> omega
  · have e : opE k d a = 11 := by rcases opE_cases k d a with ⟨h5, h6⟩ | ⟨h5, h6⟩ <;> omega
    unfold Fz
    rw [e, h1, h2, h3]
    rcases h with ⟨g1, g2, g3⟩ | ⟨g1, g2, g3⟩
    · have : d.fuse = 0 := by
        rcases h5 with h5 | h5
        · exact h5
        · rw [g2] at h5; cases h5
      refine ⟨⟨fun _ => by omega, fun _ => rfl⟩, .inr ⟨by omega, ?_, ?_⟩⟩
      · simp [begD, this]
      · simp [begD, this]
    · refine ⟨⟨fun _ => by omega, fun _ => rfl⟩, .inr ⟨by omega, ?_, ?_⟩⟩
      · simp [begD, g3]
      · simp [begD, g3]
  · have e : opE k d a ≠ 11 := by rcases opE_cases k d a with ⟨h5, h6⟩ | ⟨h5, h6 | h6 | h6⟩ <;> omega
    rcases h with ⟨g1, g2, g3⟩ | ⟨g1, g2, g3⟩
    · refine ⟨⟨fun h => absurd h e, fun h => by omega⟩, ?_⟩
      unfold Fz
      rw [h1, h2, h3]
      have hp : 0 < d.fuse := by omega
      refine .inl ⟨by omega, ?_, ?_⟩
      · simp [begD, h5, h6, hp]
      · simp [begD, h5, h6, hp]; omega
    · rw [h6] at g2; cases g2
/-- The sizes of the first j names. -/
def sumS (l : Fs) (ns : List Name) (j : Nat) : Nat := ((ns.take j).map (sizeN l)).sum
theorem sumS_succ (l : Fs) (ns : List Name) {j : Nat} {s : Name} (h : ns[j]? = some s) : sumS l ns (j + 1) = sumS l ns j + sizeN l s := by
  unfold sumS
  rw [List.take_add_one, h]
  simp
theorem sumS_keys : ∀ (l : Fs), (keys l).Nodup → ((keys l).map (sizeN l)).sum = total l := by
  intro l
  induction l with
  | nil => intro _; rfl
  | cons x r ih =>
    intro hn
    simp only [keys, List.map_cons, List.nodup_cons] at hn
    have h1 : sizeN (x :: r) x.1 = x.2.all.length := by simp [sizeN, look]
    have h2 : (r.map (·.1)).map (sizeN (x :: r)) = (r.map (·.1)).map (sizeN r) := by
      refine List.map_congr_left fun s hs => ?_
      have hne : ¬ x.1 = s := fun e => hn.1 (e ▸ hs)
      simp [sizeN, look, hne]
    simp only [keys, List.map_cons, List.sum_cons, total]
    rw [h1, h2]
    have := ih hn.2
    simp only [keys] at this
    omega
theorem sumS_all (l : Fs) (hn : (keys l).Nodup) : sumS l (names l) (names l).length = total l := by
  unfold sumS
  rw [List.take_length, ← sumS_keys l hn]
  exact ((names_perm l).map _).sum_nat
theorem sumS_le (l : Fs) (hn : (keys l).Nodup) (j : Nat) : sumS l (names l) j ≤ total l := by
  rw [← sumS_all l hn]
  unfold sumS
  have h : names l = (names l).take j ++ (names l).drop j := (List.take_append_drop j _).symm
  rw [List.take_length]
  have h2 := congrArg (fun x => (x.map (sizeN l)).sum) h
  simp only [List.map_append, List.sum_append] at h2
  omega
end Go.Proofs.Ytgmmjnedgaeefaa.Dsk
