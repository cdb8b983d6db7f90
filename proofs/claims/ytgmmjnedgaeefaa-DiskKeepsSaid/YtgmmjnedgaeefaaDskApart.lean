/- disk: files are independent of each other, in plain terms; two disks in one memory. -/
import Derived.Test.YtgmmjnedgaeefaaDskInv
import Derived.Test.YtgmmjnedgaeefaaDskSmall
import Derived.Test.YtgmmjnedgaeefaaDskCrash
namespace Go.Proofs.Ytgmmjnedgaeefaa.Dsk
open Go.RowKit Go.Sort
/-- No fuse, and on. -/
def Unfused (d : Dk) : Prop := d.fuse = -1 ∧ d.off = false
theorem Unfused.beg {d : Dk} (h : Unfused d) (ok : Bool) : begD ok d = d ∧ begE ok d = if ok = true then 0 else 2 := by
  obtain ⟨h1, h2⟩ := h
  cases ok with
  | false => exact ⟨by simp [begD], by simp [begE]⟩
  | true => exact ⟨by simp [begD, h1, h2], by simp [begE, h1, h2]⟩
theorem Unfused.op {d : Dk} (h : Unfused d) (k : Int) (a : Ac) : Unfused (opD k d a) := by
  obtain ⟨h1, h2⟩ := opD_fuse k d a
  rw [(h.beg _).1] at h1 h2
  exact ⟨h1.trans h.1, h2.trans h.2⟩
/-- What an operation makes of its file. -/
def opF (k : Int) (F : Option Fil) (b : List UInt8) : Option Fil :=
  if k = 2 then F.map Fil.sync else if k = 3 then none else some (addF (F.getD ⟨[], [], false⟩) b)
def opR (k : Int) (F : Option Fil) : Int := if k = 2 ∨ k = 3 then (if F = none then 6 else 0) else 0
theorem opE_calm {d : Dk} (h : Unfused d) (k : Int) (a : Ac) (hroom : okName a.name = true → (a.b.length : Int) ≤ d.left) : opE k d a = if okName a.name = true then opR k (look d.files a.name) else 2 := by
  unfold opE opR synE appE
  rw [(h.beg _).2]
  cases hok : okName a.name with
  | false => simp
  | true =>
    have := hroom hok
    have h1 : ¬ d.left < (a.b.length : Int) := by omega
    simp only [if_true, ne_eq, not_true_eq_false, if_false, h1]
theorem opD_err {k : Int} {d : Dk} {a : Ac} (h : begE (okName a.name) d ≠ 0) : opD k d a = begD (okName a.name) d := by
  have h1 : synE (okName a.name) d a.name ≠ 0 := by unfold synE; rw [if_pos h]; exact h
  have h2 : appE (okName a.name) d a.b ≠ 0 := by unfold appE; rw [if_pos h]; exact h
  unfold opD synD remD appD
  rw [if_pos h1, if_pos h1, if_pos h2]
  split
  · rfl
  · split <;> rfl
theorem look_opD {d : Dk} (h : Unfused d) (k : Int) (a : Ac) (hroom : okName a.name = true → (a.b.length : Int) ≤ d.left) (t : Name) :
    look (opD k d a).files t = if okName a.name = true ∧ t = a.name then opF k (look d.files a.name) a.b else look d.files t := by
  have hbe := (h.beg (okName a.name)).2
  have hbd := (h.beg (okName a.name)).1
  cases hok : okName a.name with
  | false =>
    rw [hok] at hbe hbd
    have e1 : begE false d ≠ 0 := by rw [hbe]; simp
    have h1 : (opD k d a).files = d.files := by
      rw [opD_err (by rw [hok]; exact e1), hok, hbd]
    rw [h1]
    simp
  | true =>
    rw [hok] at hbe hbd
    have e0 : begE true d = 0 := by rw [hbe]; simp
    have hr := hroom hok
    have h1 : ¬ d.left < (a.b.length : Int) := by omega
    unfold opD opF
    rw [hok]
    by_cases k2 : k = 2
    · simp only [if_pos k2]
      cases hl : look d.files a.name with
      | none =>
        have : synE true d a.name ≠ 0 := by simp [synE, e0, hl]
        simp only [synD, if_pos this, hbd, Option.map_none]
        by_cases ht : t = a.name
        · subst ht; simp [hl]
        · simp [ht]
      | some F =>
        have : ¬ synE true d a.name ≠ 0 := by simp [synE, e0, hl]
        simp only [synD, if_neg this, Option.map_some]
        by_cases ht : t = a.name
        · subst ht; simp [look_put_same, olds, hl]
        · simp [look_put_other _ _ ht, ht]
    · by_cases k3 : k = 3
      · simp only [if_neg k2, if_pos k3]
        cases hl : look d.files a.name with
        | none =>
          have : synE true d a.name ≠ 0 := by simp [synE, e0, hl]
          simp only [remD, if_pos this, hbd]
          by_cases ht : t = a.name
          · subst ht; simp [hl]
          · simp [ht]
        | some F =>
          have : ¬ synE true d a.name ≠ 0 := by simp [synE, e0, hl]
          simp only [remD, if_neg this]
          by_cases ht : t = a.name
          · subst ht; simp [look_del_same]
          · simp [look_del_other _ ht, ht]
      · simp only [if_neg k2, if_neg k3]
        have : ¬ appE true d a.b ≠ 0 := by simp [appE, e0, h1]
        simp only [appD, if_neg this]
        by_cases ht : t = a.name
        · subst ht; simp [look_put_same, olds]
        · simp [look_put_other _ _ ht, ht]
theorem opD_left {d : Dk} (h : Unfused d) (k : Int) (a : Ac) : d.left - (if okName a.name = true then (a.b.length : Int) else 0) ≤ (opD k d a).left := by
  have hbe := (h.beg (okName a.name)).2
  have hbd := (h.beg (okName a.name)).1
  cases hok : okName a.name with
  | false =>
    rw [hok] at hbe hbd
    have e1 : begE (okName a.name) d ≠ 0 := by rw [hok, hbe]; simp
    rw [opD_err e1, hok, hbd]
    simp
  | true =>
    rw [hok] at hbd
    simp only [if_true]
    unfold opD
    by_cases k2 : k = 2
    · rw [if_pos k2]
      unfold synD
      rw [hok, hbd]
      by_cases h1 : synE true d a.name ≠ 0
      · rw [if_pos h1]; omega
      · rw [if_neg h1]; simp only; omega
    · rw [if_neg k2]
      by_cases k3 : k = 3
      · rw [if_pos k3]
        unfold remD
        rw [hok, hbd]
        by_cases h1 : synE true d a.name ≠ 0
        · rw [if_pos h1]; omega
        · rw [if_neg h1]; simp only; omega
      · rw [if_neg k3]
        unfold appD
        rw [hok, hbd]
        by_cases h1 : appE true d a.b ≠ 0
        · rw [if_pos h1]; omega
        · rw [if_neg h1]; simp only; omega
theorem sumW_mono (l : List Ac) : ∀ (i j : Nat), i ≤ j → sumW l i ≤ sumW l j
  | i, 0, h => by have : i = 0 := by omega
                  subst this; exact Nat.le_refl _
  | i, j + 1, h => by
    rcases Nat.lt_or_ge j i with h1 | h1
    · have : i = j + 1 := by omega
      subst this; exact Nat.le_refl _
    · have := sumW_mono l i j h1
      simp only [sumW]
      omega
theorem wt_b {a : Ac} (h : wt a ≤ 3000) (hok : okName a.name = true) : a.b.length ≤ wt a := by
  simp only [okName, Bool.and_eq_true, decide_eq_true_eq] at hok
  unfold wt at *
  omega
/-- What a crash that keeps nothing more makes of a file. -/
def crashO (F : Fil) : Option Fil := if (F.crash 0).lasts = true then some (F.crash 0) else none
theorem crash1_same {l : Fs} {s : Name} {F : Fil} (hl : look l s = some F) : look (crash1 l s 0) s = crashO F := by
  unfold crash1 crashO
  simp only [olds, hl, Option.getD_some]
  split
  · exact look_put_same _ _ _
  · exact look_del_same _ _
theorem look_crF {l : Fs} (t : Name) {ns : List Name} (hnd : ns.Nodup) (hk : ∀ s ∈ ns, s ∈ keys l) : ∀ j, j ≤ ns.length → look (crF ns [] l j) t = if t ∈ ns.take j then (look l t).bind crashO else look l t
  | 0, _ => by simp [crF]
  | j + 1, hj => by
    have ih := look_crF (l := l) t hnd hk j (by omega)
    have hg : ns[j]? = some (ns.getD j []) := getD_at (by omega) _
    have e : crF ns [] l (j + 1) = crash1 (crF ns [] l j) (ns.getD j []) 0 := congrArg (crash1 (crF ns [] l j) (ns.getD j [])) (by simp : ([] : List Int).getD j 0 = 0)
    rw [e, List.take_add_one, hg]
    by_cases ht : t = ns.getD j []
    · have hmem : t ∈ ns := by rw [ht]; exact List.mem_of_getElem? hg
      obtain ⟨F, hF⟩ := look_is (hk t hmem)
      have h1 := crF_at ns hnd [] l (i := j) (by omega)
      rw [← ht, hF] at h1
      rw [← ht, crash1_same h1, hF]
      simp
    · rw [crash1_other 0 ht, ih]
      have ht' : ¬ t = ns[j]?.getD [] := by rwa [List.getD_eq_getElem?_getD] at ht
      simp [ht']
theorem look_crash {d : Dk} (hn : (keys d.files).Nodup) (t : Name) : look (crashD d []).files t = (look d.files t).bind crashO := by
  have h := look_crF (l := d.files) t (names_nodup hn) (fun s hs => mem_names.1 hs) (names d.files).length (Nat.le_refl _)
  show look (crF (names d.files) [] d.files (names d.files).length) t = _
  rw [h, List.take_length]
  by_cases hm : t ∈ names d.files
  · rw [if_pos hm]
  · rw [if_neg hm]
    have : look d.files t = none := look_none.2 (fun hk => hm (mem_names.2 hk))
    rw [this]
    rfl
theorem crash_total {d : Dk} (hn : (keys d.files).Nodup) : total (crashD d []).files ≤ total d.files :=
  crF_total_le (names d.files) [] d.files hn (names_nodup hn) (fun s hs => mem_names.1 hs) _ (Nat.le_refl _)
/-- Two disks share no block. -/
def Dis (L M : Lab) : Prop := ∀ b, L b ≠ none → M b = none
theorem Dis.symm {L M : Lab} (h : Dis L M) : Dis M L := fun b hb => by
  cases hL : L b with
  | none => rfl
  | some x => exact absurd (h b (by rw [hL]; simp)) hb
theorem At.apart {w w' : World} {B : Nat} {L L' M : Lab} {p : Nat} {o : Dk} (ho : At w B M p o) (hst : Step L L' w w') (hd : Dis L M) : At w' B M p o ∧ Dis L' M := by
  refine ⟨ho.keep hst.keep fun b hb hL => hb (hd b hL), fun b hb => ?_⟩
  rcases Nat.lt_or_ge b w.heap.size with h | h
  · rw [hst.lab b h] at hb
    exact hd b hb
  · cases hM : M b with
    | none => rfl
    | some x => have := (ho.lab b (by rw [hM]; simp)).2; omega
end Go.Proofs.Ytgmmjnedgaeefaa.Dsk
