/- disk: what a disk holds, and what its calls do of it, in plain terms. -/
import Derived.Sort.KeysCollected
namespace Go.Proofs.Ytgmmjnedgaeefaa.Dsk
open Go.Sort

abbrev Name := List UInt8
/-- A file: what is safe, what is behind it, was it synced? -/
structure Fil where
  safe : List UInt8
  fresh : List UInt8
  syn : Bool
def Fil.all (F : Fil) : List UInt8 := F.safe ++ F.fresh
def Fil.lasts (F : Fil) : Bool := F.syn || decide (0 < F.safe.length)
def Fil.sync (F : Fil) : Fil := ⟨F.safe ++ F.fresh, [], true⟩
def keepsOf (F : Fil) (part : Int) : Nat := (max part 0).toNat % (F.fresh.length + 1)
def Fil.crash (F : Fil) (part : Int) : Fil := ⟨F.safe ++ F.fresh.take (keepsOf F part), [], F.syn⟩
abbrev Fs := List (Name × Fil)
def keys (l : Fs) : List Name := l.map (·.1)
def look : Fs → Name → Option Fil
  | [], _ => none
  | x :: r, s => if x.1 = s then some x.2 else look r s
/-- The file s is F from now on. -/
def put : Fs → Name → Fil → Fs
  | [], s, F => [(s, F)]
  | x :: r, s, F => if x.1 = s then (s, F) :: r else x :: put r s F
def del (l : Fs) (s : Name) : Fs := l.filter fun x => decide (x.1 ≠ s)
def total : Fs → Nat
  | [] => 0
  | x :: r => x.2.all.length + total r

theorem look_none : ∀ {l : Fs} {s : Name}, look l s = none ↔ s ∉ keys l
  | [], s => by simp [look, keys]
  | x :: r, s => by
    have := look_none (l := r) (s := s)
    by_cases h : x.1 = s
    · simp [look, h, keys]
    · have h' : ¬ s = x.1 := fun e => h e.symm
      simp only [look, if_neg h, this, keys, List.map_cons, List.mem_cons, h', false_or]
theorem look_some : ∀ {l : Fs} {s : Name} {F : Fil}, look l s = some F → (s, F) ∈ l
  | [], s, F, h => by simp [look] at h
  | x :: r, s, F, h => by
    unfold look at h
    split at h
    · rename_i hx
      cases h
      subst hx
      exact List.mem_cons_self
    · exact List.mem_cons_of_mem _ (look_some h)
theorem look_mem : ∀ {l : Fs} {s : Name} {F : Fil}, (keys l).Nodup → (s, F) ∈ l → look l s = some F
  | x :: r, s, F, hn, h => by
    simp only [keys, List.map_cons, List.nodup_cons] at hn
    rcases List.mem_cons.1 h with rfl | h
    · simp [look]
    · have : s ∈ r.map (·.1) := List.mem_map.2 ⟨(s, F), h, rfl⟩
      have hne : ¬ x.1 = s := fun e => hn.1 (e ▸ this)
      simp only [look, if_neg hne]
      exact look_mem hn.2 h
theorem look_is {l : Fs} {s : Name} (h : s ∈ keys l) : ∃ F, look l s = some F := by
  cases hl : look l s with
  | none => exact absurd h (look_none.1 hl)
  | some F => exact ⟨F, rfl⟩
theorem look_key {l : Fs} {s : Name} {F : Fil} (h : look l s = some F) : s ∈ keys l := List.mem_map.2 ⟨_, look_some h, rfl⟩

theorem keys_put_old : ∀ {l : Fs} {s : Name} {F : Fil}, s ∈ keys l → keys (put l s F) = keys l
  | x :: r, s, F, h => by
    by_cases hx : x.1 = s
    · simp [put, hx, keys]
    · simp only [keys, List.map_cons, List.mem_cons] at h
      have h' : ¬ s = x.1 := fun e => hx e.symm
      simp only [h', false_or] at h
      have ih := keys_put_old (l := r) (s := s) (F := F) h
      simp only [keys] at ih
      simp [put, hx, keys, ih]
theorem put_new : ∀ {l : Fs} {s : Name} {F : Fil}, s ∉ keys l → put l s F = l ++ [(s, F)]
  | [], s, F, _ => rfl
  | x :: r, s, F, h => by
    simp only [keys, List.map_cons, List.mem_cons, not_or] at h
    have hx : ¬ x.1 = s := fun e => h.1 e.symm
    simp [put, hx, put_new (l := r) (s := s) (F := F) h.2]
theorem keys_put_new {l : Fs} {s : Name} {F : Fil} (h : s ∉ keys l) : keys (put l s F) = keys l ++ [s] := by
  rw [put_new h]; simp [keys]
theorem nodup_put {l : Fs} {s : Name} {F : Fil} (hn : (keys l).Nodup) : (keys (put l s F)).Nodup := by
  by_cases h : s ∈ keys l
  · rw [keys_put_old h]; exact hn
  · rw [keys_put_new h, List.nodup_append]
    exact ⟨hn, by simp, by simp; intro a ha e; exact h (e ▸ ha)⟩
theorem look_put_same : ∀ (l : Fs) (s : Name) (F : Fil), look (put l s F) s = some F
  | [], s, F => by simp [put, look]
  | x :: r, s, F => by
    by_cases hx : x.1 = s
    · simp [put, hx, look]
    · simp [put, hx, look, look_put_same r s F]
theorem look_put_other : ∀ (l : Fs) {s t : Name} (F : Fil), t ≠ s → look (put l s F) t = look l t
  | [], s, t, F, h => by simp [put, look, Ne.symm h]
  | x :: r, s, t, F, h => by
    by_cases hx : x.1 = s
    · have h' : ¬ x.1 = t := fun e => h (e.symm.trans hx)
      have h2 : ¬ s = t := fun e => h e.symm
      simp [put, hx, look, h2]
    · by_cases ht : x.1 = t
      · simp only [put, if_neg hx, look, if_pos ht]
      · simp only [put, if_neg hx, look, if_neg ht, look_put_other r F h]
theorem mem_put {l : Fs} {s t : Name} {F G : Fil} (hn : (keys l).Nodup) (h : (t, G) ∈ put l s F) : (t = s ∧ G = F) ∨ (t ≠ s ∧ (t, G) ∈ l) := by
  have h1 := look_mem (nodup_put hn) h
  by_cases ht : t = s
  · subst ht
    rw [look_put_same] at h1
    exact .inl ⟨rfl, (Option.some.inj h1).symm⟩
  · rw [look_put_other l F ht] at h1
    exact .inr ⟨ht, look_some h1⟩
theorem put_put : ∀ (l : Fs) (s : Name) (F G : Fil), put (put l s F) s G = put l s G
  | [], s, F, G => by simp [put]
  | x :: r, s, F, G => by
    by_cases hx : x.1 = s
    · simp [put, hx]
    · simp only [put, if_neg hx, put_put r s F G]
theorem keys_del (l : Fs) (s : Name) : keys (del l s) = (keys l).filter fun t => decide (t ≠ s) := by
  simp only [keys, del, List.filter_map]
  rfl
theorem nodup_del {l : Fs} {s : Name} (hn : (keys l).Nodup) : (keys (del l s)).Nodup := by
  rw [keys_del]; exact hn.filter _
theorem mem_del {l : Fs} {s t : Name} {G : Fil} : (t, G) ∈ del l s ↔ t ≠ s ∧ (t, G) ∈ l := by
  simp only [del, List.mem_filter, decide_eq_true_eq]
  exact And.comm
theorem look_del_same (l : Fs) (s : Name) : look (del l s) s = none := by
  rw [look_none, keys_del]; simp
theorem look_del_other : ∀ (l : Fs) {s t : Name}, t ≠ s → look (del l s) t = look l t
  | [], s, t, h => rfl
  | x :: r, s, t, h => by
    by_cases hx : x.1 = s
    · have ht : ¬ x.1 = t := fun e => h (e.symm.trans hx)
      have e : del (x :: r) s = del r s := by simp [del, hx]
      rw [e, look_del_other r h]
      simp [look, ht]
    · have e : del (x :: r) s = x :: del r s := by simp [del, hx]
      rw [e]
      simp only [look, look_del_other r h]
theorem total_put_old : ∀ {l : Fs} {s : Name} {F G : Fil}, look l s = some F → total (put l s G) + F.all.length = total l + G.all.length
  | [], s, F, G, h => by simp [look] at h
  | x :: r, s, F, G, h => by
    by_cases hx : x.1 = s
    · simp only [look, if_pos hx, Option.some.injEq] at h
      subst h
      simp only [put, if_pos hx, total]
      omega
    · simp only [look, if_neg hx] at h
      have := total_put_old (G := G) h
      simp only [put, if_neg hx, total]
      omega
theorem total_put_new {l : Fs} {s : Name} {G : Fil} : look l s = none → total (put l s G) = total l + G.all.length := by
  induction l with
  | nil => intro _; simp [put, total]
  | cons x r ih =>
    intro h
    unfold look at h
    split at h
    · cases h
    · rename_i hx
      have := ih h
      simp only [put, if_neg hx, total]
      omega
theorem total_del : ∀ {l : Fs} {s : Name} {F : Fil}, (keys l).Nodup → look l s = some F → total (del l s) + F.all.length = total l
  | [], s, F, _, h => by simp [look] at h
  | x :: r, s, F, hn, h => by
    simp only [keys, List.map_cons, List.nodup_cons] at hn
    by_cases hx : x.1 = s
    · simp only [look, if_pos hx, Option.some.injEq] at h
      subst h
      have hr : del r s = r := by
        unfold del
        rw [List.filter_eq_self]
        intro y hy
        simp only [decide_eq_true_eq]
        intro e
        exact hn.1 (by rw [hx, ← e]; exact List.mem_map.2 ⟨y, hy, rfl⟩)
      have e : del (x :: r) s = del r s := by simp [del, hx]
      rw [e, hr]
      simp only [total]
      omega
    · simp only [look, if_neg hx] at h
      have := total_del hn.2 h
      have e : del (x :: r) s = x :: del r s := by simp [del, hx]
      rw [e]
      simp only [total]
      omega

/-- A disk. -/
structure Dk where
  files : Fs
  left : Int
  off : Bool
  fuse : Int
def names (l : Fs) : List Name := (keys l).mergeSort leB
theorem mem_names {l : Fs} {s : Name} : s ∈ names l ↔ s ∈ keys l := (List.mergeSort_perm _ _).mem_iff
theorem names_perm (l : Fs) : (names l).Perm (keys l) := List.mergeSort_perm _ _
/-- What an operation with that name does first. -/
def begE (ok : Bool) (d : Dk) : Int := if ok = false then 2 else if d.fuse = 0 ∨ d.off = true then 11 else 0
def begD (ok : Bool) (d : Dk) : Dk := if ok = false then d else if d.fuse = 0 then { d with off := true } else if d.off = true then d else if 0 < d.fuse then { d with fuse := d.fuse - 1 } else d
theorem begD_files (ok : Bool) (d : Dk) : (begD ok d).files = d.files := by unfold begD; repeat (first | rfl | split)
theorem begD_left (ok : Bool) (d : Dk) : (begD ok d).left = d.left := by unfold begD; repeat (first | rfl | split)
def olds (l : Fs) (s : Name) : Fil := (look l s).getD ⟨[], [], false⟩
def addF (F : Fil) (b : List UInt8) : Fil := { F with fresh := F.fresh ++ b }
def appE (ok : Bool) (d : Dk) (b : List UInt8) : Int := if begE ok d ≠ 0 then begE ok d else if d.left < b.length then 9 else 0
def appD (ok : Bool) (d : Dk) (s : Name) (b : List UInt8) : Dk :=
  if appE ok d b ≠ 0 then begD ok d else { begD ok d with files := put d.files s (addF (olds d.files s) b), left := d.left - b.length }
def synE (ok : Bool) (d : Dk) (s : Name) : Int := if begE ok d ≠ 0 then begE ok d else if look d.files s = none then 6 else 0
def synD (ok : Bool) (d : Dk) (s : Name) : Dk := if synE ok d s ≠ 0 then begD ok d else { begD ok d with files := put d.files s (olds d.files s).sync }
def remD (ok : Bool) (d : Dk) (s : Name) : Dk := if synE ok d s ≠ 0 then begD ok d else { begD ok d with files := del d.files s, left := d.left + (olds d.files s).all.length }
/-- One file's part of a crash. -/
def crash1 (l : Fs) (s : Name) (part : Int) : Fs :=
  let F := (olds l s).crash part
  if F.lasts then put l s F else del l s
def loses (F : Fil) (part : Int) : Nat := F.fresh.length - keepsOf F part
end Go.Proofs.Ytgmmjnedgaeefaa.Dsk
