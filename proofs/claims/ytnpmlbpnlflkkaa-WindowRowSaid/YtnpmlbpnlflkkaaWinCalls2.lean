/- window: Take, Allow, Recover, New. -/
import Derived.Test.YtnpmlbpnlflkkaaWinCalls
namespace Go.Proofs.Ytnpmlbpnlflkkaa.Win
open Go.RowKit
abbrev wl (f t s l : Nat) : List Value := [.int .u64 (f : Int), .int .u64 (t : Int), .int .u64 (s : Int), .int .u64 (l : Int)]
/-- The bits behind n was taken. -/
def takeS (t s n : Nat) : Nat := if t < n then (s <<< (n - t)) % 2 ^ 64 ||| 1 else s ||| 2 ^ (t - n)
def takeT (t n : Nat) : Nat := if t < n then n else t

theorem wl_one (f t s l : Nat) : ∀ v ∈ wl f t s l, v.oneCell' = true := by
  intro v hv
  simp only [wl, List.mem_cons, List.not_mem_nil, or_false] at hv
  rcases hv with rfl | rfl | rfl | rfl <;> rfl
theorem Take_no (f t s l n k : Nat) (w : World) (hF : Fits f t s l) (h : ref f t s l n = k) (hk : k ≠ 0) : Calls Try.prog 19 #[wv f t s l, .int .u64 (n : Int)] w fun e w' => e = .returned (.tuple #[wv 0 0 0 0, .int .i64 (k : Int)]) ∧ Below w.heap.size w w' := by
  have HR := Lib.hid (fun W : World => Ref_any f t s l n W hF)
  rw [h] at HR
  have hk2 : ((k : Int) != 0) = true := by simp only [bne_iff_ne, ne_eq]; omega
  clear h hk hF
  go_enter Try.func19, Try.ntmps19
  go_wp2_with fail
  refine (HR.out _).mono ?_
  rintro e V ⟨rfl, hb⟩
  have R1 := Lib.hid (show Row V (w.heap.size + 1) (wl 0 0 0 0) 35 from (Row.new (by simp) rfl).below hb (by simp))
  have HB := Lib.hid (show Below w.heap.size w V from nextB (two_below w _ _) (Nat.le_refl _) hb)
  clear hb
  go_wp2_with (first
    | (refine wpList_storeRow (n := 4) rfl 35 _ _ rfl rfl rfl (cs := wl 0 0 0 0) (old := wl 0 0 0 0) R1.out (by kernel_rfl) rfl rfl (wl_one _ _ _ _) ?_
       obtain ⟨V2, hV2⟩ : ∃ V2, V.setRow (w.heap.size + 1) (wl 0 0 0 0).toArray = V2 := ⟨_, rfl⟩
       refine wpList_world hV2 ?_
       have R2 := Lib.hid (show Row V2 (w.heap.size + 1) (wl 0 0 0 0) 35 by rw [← hV2]; exact R1.out.setRow _)
       have HB2 := Lib.hid (show Below w.heap.size w V2 by rw [← hV2]; exact below_setRow HB.out (by omega) _)
       clear hV2)
    | fail)
  refine bodyPost_ret (results_ct (t' := 35) (cs := wl 0 0 0 0) rfl rfl R2.out Try.underlying35 rfl (by kernel_rfl) rfl) rfl ?_
  exact ⟨rfl, HB2.out⟩
theorem Take_up (f t s l n : Nat) (w : World) (hF : Fits f t s l) (hn : n < 2 ^ 64) (h : ref f t s l n = 0) (hlt : t < n) : Calls Try.prog 19 #[wv f t s l, .int .u64 (n : Int)] w fun e w' => e = .returned (.tuple #[wv f (takeT t n) (takeS t s n) l, .int .i64 0]) ∧ Below w.heap.size w w' := by
  have HR := Lib.hid (fun W : World => Ref_any f t s l n W hF)
  rw [h] at HR
  have hd : ¬ (n ≤ t ∧ 64 ≤ t - n) := by
    unfold ref at h
    repeat (split at h; · cases h)
    omega
  obtain ⟨_, ht, hs, _⟩ := hF
  have e1 : (t : Int) < (n : Int) := by omega
  have e2 : IntKind.u64.wrap ((n : Int) - (t : Int)) = ((n - t : Nat) : Int) := by rw [wrap_in _ (by omega) (by omega)]; omega
  have s1 := shl_any s (n - t)
  have hq : (s <<< (n - t)) % 2 ^ 64 < 2 ^ 64 := Nat.mod_lt _ (by omega)
  have s3 := or_any _ 1 hq (by omega)
  unfold takeT takeS
  rw [if_pos hlt, if_pos hlt]
  generalize (s <<< (n - t)) % 2 ^ 64 = q at s1 s3
  have s3 : Op.intBits .or .u64 (q : Int) 1 = pure (.int .u64 ((q ||| 1 : Nat) : Int)) := s3
  generalize q ||| 1 = q' at s3
  have s2 : Op.shift .shl .u64 1 .u64 0 = (pure (.int .u64 1) : Sem Value) := shl_any 1 0
  clear hlt hd ht hs hn h hq
  generalize ((n - t : Nat) : Int) = z at e2 s1
  go_enter Try.func19, Try.ntmps19
  go_wp2_with fail
  refine (HR.out _).mono ?_
  rintro e V ⟨rfl, hb⟩
  have r0 : Row V w.heap.size (wl f t s l) 35 := ((Row.new rfl rfl).alloc _).below hb (by simp; omega)
  have R1 := Lib.hid (show Row V (w.heap.size + 1) (wl 0 0 0 0) 35 from (Row.new (by simp) rfl).below hb (by simp))
  have HB := Lib.hid (show Below w.heap.size w V from nextB (two_below w _ _) (Nat.le_refl _) hb)
  have hV : w.heap.size + 1 < V.heap.size := R1.out.lt
  have p0 : ∀ o, (V.alloc o).cell? ⟨w.heap.size, 0, none⟩ = some (.int .u64 (f : Int)) := fun o => (r0.alloc o).cell rfl
  have p1 : ∀ o, (V.alloc o).cell? ⟨w.heap.size, 1, none⟩ = some (.int .u64 (t : Int)) := fun o => (r0.alloc o).cell rfl
  have p2 : ∀ o, (V.alloc o).cell? ⟨w.heap.size, 2, none⟩ = some (.int .u64 (s : Int)) := fun o => (r0.alloc o).cell rfl
  have p3 : ∀ o, (V.alloc o).cell? ⟨w.heap.size, 3, none⟩ = some (.int .u64 (l : Int)) := fun o => (r0.alloc o).cell rfl
  have o0 : V.cell? ⟨w.heap.size, 0, none⟩ = some (.int .u64 (f : Int)) := r0.cell rfl
  have o1 : V.cell? ⟨w.heap.size, 1, none⟩ = some (.int .u64 (t : Int)) := r0.cell rfl
  have o2 : V.cell? ⟨w.heap.size, 2, none⟩ = some (.int .u64 (s : Int)) := r0.cell rfl
  have o3 : V.cell? ⟨w.heap.size, 3, none⟩ = some (.int .u64 (l : Int)) := r0.cell rfl
  clear hb r0
  go_wp2_with (first
    | (refine wpList_storeRow (n := 4) rfl 35 _ _ rfl rfl rfl (cs := wl f n q' l) (old := wl 0 0 0 0) (R1.out.alloc _) (by kernel_rfl) rfl rfl (wl_one _ _ _ _) ?_
       obtain ⟨V2, hV2⟩ : ∃ V2, (V.alloc (.cells #[.int .u64 (f : Int), .int .u64 (n : Int), .int .u64 (q' : Int), .int .u64 (l : Int)] 35)).setRow (w.heap.size + 1) (wl f n q' l).toArray = V2 := ⟨_, rfl⟩
       refine wpList_world hV2 ?_
       have R2 := Lib.hid (show Row V2 (w.heap.size + 1) (wl f n q' l) 35 by rw [← hV2]; exact (R1.out.alloc _).setRow _)
       have HB2 := Lib.hid (show Below w.heap.size w V2 by rw [← hV2]; exact below_setRow (HB.out.alloc (by omega) _) (by omega) _)
       clear hV2)
    | fail)
  refine bodyPost_ret (results_ct (t' := 35) (cs := wl f n q' l) rfl rfl R2.out Try.underlying35 rfl (by kernel_rfl) rfl) rfl ?_
  exact ⟨rfl, HB2.out⟩
theorem Take_in (f t s l n : Nat) (w : World) (hF : Fits f t s l) (hn : n < 2 ^ 64) (h : ref f t s l n = 0) (hlt : ¬ t < n) : Calls Try.prog 19 #[wv f t s l, .int .u64 (n : Int)] w fun e w' => e = .returned (.tuple #[wv f (takeT t n) (takeS t s n) l, .int .i64 0]) ∧ Below w.heap.size w w' := by
  have HR := Lib.hid (fun W : World => Ref_any f t s l n W hF)
  rw [h] at HR
  have hd : ¬ (n ≤ t ∧ 64 ≤ t - n) := by
    unfold ref at h
    repeat (split at h; · cases h)
    omega
  obtain ⟨_, ht, hs, _⟩ := hF
  have e1 : ¬ (t : Int) < (n : Int) := by omega
  have e2 : IntKind.u64.wrap ((t : Int) - (n : Int)) = ((t - n : Nat) : Int) := by rw [wrap_in _ (by omega) (by omega)]; omega
  have s1 : Op.shift .shl .u64 1 .u64 ((t - n : Nat) : Int) = pure (.int .u64 ((2 ^ (t - n) : Nat) : Int)) := by
    have h1 := shl_any 1 (t - n)
    rw [Nat.one_shiftLeft, Nat.mod_eq_of_lt (Nat.pow_lt_pow_right (by omega) (by omega))] at h1
    exact h1
  have s3 := or_any s (2 ^ (t - n)) hs (Nat.pow_lt_pow_right (by omega) (by omega))
  unfold takeT takeS
  rw [if_neg hlt, if_neg hlt]
  generalize s ||| 2 ^ (t - n) = q' at s3
  clear hlt hd ht hs hn h
  generalize ((2 ^ (t - n) : Nat) : Int) = y at s1 s3
  generalize ((t - n : Nat) : Int) = z at e2 s1
  go_enter Try.func19, Try.ntmps19
  go_wp2_with fail
  refine (HR.out _).mono ?_
  rintro e V ⟨rfl, hb⟩
  have r0 : Row V w.heap.size (wl f t s l) 35 := ((Row.new rfl rfl).alloc _).below hb (by simp; omega)
  have R1 := Lib.hid (show Row V (w.heap.size + 1) (wl 0 0 0 0) 35 from (Row.new (by simp) rfl).below hb (by simp))
  have HB := Lib.hid (show Below w.heap.size w V from nextB (two_below w _ _) (Nat.le_refl _) hb)
  have hV : w.heap.size + 1 < V.heap.size := R1.out.lt
  have p0 : ∀ o, (V.alloc o).cell? ⟨w.heap.size, 0, none⟩ = some (.int .u64 (f : Int)) := fun o => (r0.alloc o).cell rfl
  have p1 : ∀ o, (V.alloc o).cell? ⟨w.heap.size, 1, none⟩ = some (.int .u64 (t : Int)) := fun o => (r0.alloc o).cell rfl
  have p2 : ∀ o, (V.alloc o).cell? ⟨w.heap.size, 2, none⟩ = some (.int .u64 (s : Int)) := fun o => (r0.alloc o).cell rfl
  have p3 : ∀ o, (V.alloc o).cell? ⟨w.heap.size, 3, none⟩ = some (.int .u64 (l : Int)) := fun o => (r0.alloc o).cell rfl
  have o0 : V.cell? ⟨w.heap.size, 0, none⟩ = some (.int .u64 (f : Int)) := r0.cell rfl
  have o1 : V.cell? ⟨w.heap.size, 1, none⟩ = some (.int .u64 (t : Int)) := r0.cell rfl
  have o2 : V.cell? ⟨w.heap.size, 2, none⟩ = some (.int .u64 (s : Int)) := r0.cell rfl
  have o3 : V.cell? ⟨w.heap.size, 3, none⟩ = some (.int .u64 (l : Int)) := r0.cell rfl
  clear hb r0
  go_wp2_with (first
    | (refine wpList_storeRow (n := 4) rfl 35 _ _ rfl rfl rfl (cs := wl f t q' l) (old := wl 0 0 0 0) (R1.out.alloc _) (by kernel_rfl) rfl rfl (wl_one _ _ _ _) ?_
       obtain ⟨V2, hV2⟩ : ∃ V2, (V.alloc (.cells #[.int .u64 (f : Int), .int .u64 (t : Int), .int .u64 (q' : Int), .int .u64 (l : Int)] 35)).setRow (w.heap.size + 1) (wl f t q' l).toArray = V2 := ⟨_, rfl⟩
       refine wpList_world hV2 ?_
       have R2 := Lib.hid (show Row V2 (w.heap.size + 1) (wl f t q' l) 35 by rw [← hV2]; exact (R1.out.alloc _).setRow _)
       have HB2 := Lib.hid (show Below w.heap.size w V2 by rw [← hV2]; exact below_setRow (HB.out.alloc (by omega) _) (by omega) _)
       clear hV2)
    | fail)
  refine bodyPost_ret (results_ct (t' := 35) (cs := wl f t q' l) rfl rfl R2.out Try.underlying35 rfl (by kernel_rfl) rfl) rfl ?_
  exact ⟨rfl, HB2.out⟩
theorem Take_ok (f t s l n : Nat) (w : World) (hF : Fits f t s l) (hn : n < 2 ^ 64) (h : ref f t s l n = 0) : Calls Try.prog 19 #[wv f t s l, .int .u64 (n : Int)] w fun e w' => e = .returned (.tuple #[wv f (takeT t n) (takeS t s n) l, .int .i64 0]) ∧ Below w.heap.size w w' := by
  by_cases hlt : t < n
  · exact Take_up f t s l n w hF hn h hlt
  · exact Take_in f t s l n w hF hn h hlt
end Go.Proofs.Ytnpmlbpnlflkkaa.Win
