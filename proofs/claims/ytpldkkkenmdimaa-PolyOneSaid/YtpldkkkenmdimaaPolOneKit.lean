/- Blocks of sixteen bytes in a row; the tag with an r of 1. -/
import Derived.Test.YtpldkkkenmdimaaPolLess
import Derived.Test.YtpldkkkenmdimaaArgs
import Derived.Deep.Slices
namespace Go.Proofs.Ytpldkkkenmdimaa
open Go.ChangeShapes Go.WideShapes Go.ChangeAt Go.RowKit Go.Deep
namespace PolOne
/-- A list of arrays of sixteen bytes, in a block below B. -/
def Blks (w : World) (B : Nat) (v : Value) (ls : List (List UInt8)) : Prop :=
  ∃ A c, v = .slice A ls.length c ∧ ls.length ≤ c ∧ (ls ≠ [] → ∃ b off, A = some ⟨b, off, none⟩ ∧ b < B ∧ ∀ (i : Nat) (l : List UInt8), ls[i]? = some l → ∀ (j : Nat) (u : UInt8), l[j]? = some u → w.cell? ⟨b, off + (i * 16 + j), none⟩ = some (bv u))
theorem Blks.below {w w' : World} {B : Nat} {v : Value} {ls : List (List UInt8)} (h : Blks w B v ls) (hb : Below B w w') : Blks w' B v ls := by
  obtain ⟨A, c, h1, h2, h3⟩ := h
  refine ⟨A, c, h1, h2, fun hne => ?_⟩
  obtain ⟨b, off, e, hlt, h4⟩ := h3 hne
  exact ⟨b, off, e, hlt, fun i l hl j u hu => (hb.cell (p := ⟨b, _, none⟩) hlt).trans (h4 i l hl j u hu)⟩
section
variable {H : Type} {enc : TypeId × Value → H}
theorem blks_trod {W : World} {t : TypeId} {base : Nat} {sp : Nat → Bool} {v : Value} {d : DataW H} {ps : List MemPlace} (ht : Try.prog.underlying t = some (.slice 35)) (hok : Value.okWide Try.prog W .any base t v)
    (h : DataW.Trod enc Try.prog W 0 sp true t v d ps) (hlt : ∀ x ∈ ps, x.block < W.heap.size) :
    ∃ ls : List (List UInt8), Blks W W.heap.size v ls ∧ ∀ l ∈ ls, l.length = 16 := by
  have hC : Try.prog.cellsOf 35 = 16 := by kernel_rfl
  have hC1 : Try.prog.cellsOf 5 = 1 := by kernel_rfl
  obtain ⟨A, n, c, rfl⟩ := okWide_slice ht hok
  obtain ⟨fuel, hf⟩ := h
  rcases open_slice ht hf with ⟨hcs, hx⟩ | ⟨a, len, cap, m, k, D, Pl, hcs, _, hl, hm, hmm, hx, hi⟩
  · simp only [Value.cells, List.cons.injEq, Value.slice.injEq, and_true] at hcs
    obtain ⟨rfl, rfl, rfl⟩ := hcs
    exact ⟨[], ⟨none, 0, rfl, Nat.le_refl _, fun h => absurd rfl h⟩, by simp⟩
  · simp only [Value.cells, List.cons.injEq, Value.slice.injEq, and_true] at hcs
    obtain ⟨rfl, rfl, rfl⟩ := hcs
    simp only [Prod.mk.injEq] at hx
    obtain ⟨rfl, rfl⟩ := hx
    have hle : n ≤ m := by rw [hmm]; split <;> omega
    have hin : ∀ i j, ∃ u : UInt8, i < n → j < 16 → W.cell? (a.add (i * 16 + j)) = some (bv u) := by
      intro i j
      by_cases hin : i < n
      · by_cases hjn : j < 16
        · obtain ⟨cs', hc, ht'⟩ := hi i (by omega)
          rw [hC] at hc
          obtain ⟨ys, n', _, _, hcl0, hyl, hfd⟩ := DataW.trod_array Try.underlying35 ht'
          obtain ⟨_, hcl, hat⟩ := World.cells?_some hc
          have h1 := hfd j hjn
          rw [hC1, Nat.mul_one] at h1
          have hone' : (cs'.drop j).take 1 = [cs'[j]'(by omega)] := by
            rw [List.drop_eq_getElem_cons (by omega)]
            rfl
          rw [hone', List.getElem?_eq_getElem (by omega)] at h1
          obtain ⟨z, hz, _, hwf⟩ := DataW.trod_int Try.underlying5 h1
          simp only [Lit.wf, Bool.and_eq_true, decide_eq_true_eq] at hwf
          simp only [List.cons.injEq, and_true] at hz
          have h0 : 0 ≤ z := hwf.1
          have h255 : z ≤ 255 := hwf.2
          refine ⟨UInt8.ofNat z.toNat, fun _ _ => ?_⟩
          have := hat j hjn
          rw [List.getElem?_eq_getElem (by omega), hz] at this
          have e : bv (UInt8.ofNat z.toNat) = .int .u8 z := by
            unfold bv
            rw [UInt8.toNat_ofNat']
            congr 1
            omega
          rw [e, ← this, add_assoc]
        · exact ⟨0, fun _ h => absurd h hjn⟩
      · exact ⟨0, fun h => absurd h hin⟩
    obtain ⟨g, hg⟩ : ∃ g : Nat → Nat → UInt8, ∀ i j, i < n → j < 16 → W.cell? (a.add (i * 16 + j)) = some (bv (g i j)) :=
      ⟨fun i j => (hin i j).choose, fun i j h1 h2 => (hin i j).choose_spec h1 h2⟩
    refine ⟨(List.range n).map fun i => (List.range 16).map (g i), ⟨some a, c, by simp, by simpa using hl, fun hne => ?_⟩, fun l hl => ?_⟩
    · have hn0 : 0 < n := by
        rcases Nat.eq_zero_or_pos n with h | h
        · subst h; simp at hne
        · exact h
      obtain ⟨b, off, spot⟩ := a
      have hspot : spot = none := by
        have h00 := hg 0 0 hn0 (by omega)
        rw [Nat.zero_mul] at h00
        exact spot_none h00
      subst hspot
      refine ⟨b, off, rfl, hlt (.cell b off) (List.mem_append_left _ (MemPlace.mem_row.2 ⟨0, by rw [hC]; omega, by simp⟩)), fun i l hl' j u hu => ?_⟩
      have hi' : i < n := by have := (List.getElem?_eq_some_iff.1 hl').1; simpa using this
      rw [List.getElem?_map, List.getElem?_range hi'] at hl'
      simp only [Option.map_some, Option.some.injEq] at hl'
      subst hl'
      have hj' : j < 16 := by have := (List.getElem?_eq_some_iff.1 hu).1; simpa using this
      rw [List.getElem?_map, List.getElem?_range hj'] at hu
      simp only [Option.map_some, Option.some.injEq] at hu
      subst hu
      have := hg i j hi' hj'
      rwa [add_none] at this
    · simp only [List.mem_map, List.mem_range] at hl
      obtain ⟨i, _, rfl⟩ := hl
      simp
end

/-! ### the numbers -/
open Poly (P)
/-- A block with its highest byte modulo 16. -/
def cut16 (l : List UInt8) : List UInt8 := l.set 15 (l.getD 15 0 % 16)
theorem cut16_length (l : List UInt8) (h : l.length = 16) : (cut16 l).length = 16 := by simp [cut16, h]
theorem le_cut : ∀ l : List UInt8, l.length = 16 → Poly.le (cut16 l) < 21267647932558653966460912964485513216 := by
  intro l h
  have hs : cut16 l = (l.take 15) ++ [l.getD 15 0 % 16] := by
    unfold cut16
    rw [List.set_eq_take_append_cons_drop, if_pos (by omega), List.drop_of_length_le (by omega)]
  rw [hs, Pol.le_snoc]
  have h1 := Poly.le_lt (l.take 15)
  have hl : (l.take 15).length = 15 := by simp [h]
  rw [hl] at h1 ⊢
  have h2 : (l.getD 15 0 % 16).toNat < 16 := by
    rw [UInt8.toNat_mod]
    exact Nat.mod_lt _ (by decide)
  have e : (256 : Nat) ^ 15 = 1329227995784915872903807060280344576 := by decide
  rw [e] at h1 ⊢
  omega
/-- The sum of the blocks. -/
def total : List (List UInt8) → Nat
  | [] => 0
  | l :: r => Poly.le (cut16 l) + total r
theorem total_append (a b : List (List UInt8)) : total (a ++ b) = total a + total b := by
  induction a with
  | nil => simp [total]
  | cons l r ih => simp only [List.cons_append, total, ih]; omega
theorem total_lt : ∀ ls : List (List UInt8), (∀ l ∈ ls, l.length = 16) → total ls ≤ ls.length * 21267647932558653966460912964485513216
  | [], _ => by simp [total]
  | l :: r, h => by
    have h1 := le_cut l (h l (List.mem_cons_self ..))
    have h2 := total_lt r fun x hx => h x (List.mem_cons_of_mem _ hx)
    simp only [total, List.length_cons, Nat.add_mul, Nat.one_mul]
    omega
/-- The blocks' bytes, one after the other. -/
def joined (ls : List (List UInt8)) : List UInt8 := (ls.map cut16).flatten
theorem joined_snoc (ls : List (List UInt8)) (l : List UInt8) : joined (ls ++ [l]) = joined ls ++ cut16 l := by simp [joined]
theorem joined_length : ∀ ls : List (List UInt8), (∀ l ∈ ls, l.length = 16) → (joined ls).length = 16 * ls.length
  | [], _ => rfl
  | l :: r, h => by
    have h1 := cut16_length l (h l (List.mem_cons_self ..))
    have h2 := joined_length r fun x hx => h x (List.mem_cons_of_mem _ hx)
    have e : joined (l :: r) = cut16 l ++ joined r := rfl
    rw [e, List.length_append, h1, h2, List.length_cons]
    omega
theorem joined_block : ∀ (ls : List (List UInt8)) (n : Nat) (l : List UInt8), (∀ l ∈ ls, l.length = 16) → ls[n]? = some l → ((joined ls).drop (16 * n)).take 16 = cut16 l
  | [], n, l, _, h => by simp at h
  | x :: r, 0, l, hl, h => by
    simp only [List.getElem?_cons_zero, Option.some.injEq] at h
    subst h
    have h1 := cut16_length x (hl x (List.mem_cons_self ..))
    show ((cut16 x ++ joined r).drop 0).take 16 = _
    rw [List.drop_zero, List.take_left' h1]
  | x :: r, n + 1, l, hl, h => by
    have h1 := cut16_length x (hl x (List.mem_cons_self ..))
    show ((cut16 x ++ joined r).drop (16 * (n + 1))).take 16 = _
    rw [List.drop_append, List.drop_of_length_le (by omega), List.nil_append, h1, show 16 * (n + 1) - 16 = 16 * n by omega]
    exact joined_block r n l (fun x hx => hl x (List.mem_cons_of_mem _ hx)) (by simpa using h)
theorem hashN_one (ls : List (List UInt8)) (hl : ∀ l ∈ ls, l.length = 16) : ∀ n, n ≤ ls.length → Pol.hashN 1 (joined ls) n = (total (ls.take n) + n * 340282366920938463463374607431768211456) % P
  | 0, _ => by simp [Pol.hashN, total]
  | n + 1, h => by
    have ih := hashN_one ls hl n (by omega)
    obtain ⟨l, hn⟩ : ∃ l, ls[n]? = some l := ⟨_, List.getElem?_eq_getElem (by omega)⟩
    have hb : Pol.blockAt (joined ls) n = Poly.le (cut16 l) + 340282366920938463463374607431768211456 := by
      unfold Pol.blockAt
      rw [joined_block ls n l hl hn, Pol.e256]
    have ht : ls.take (n + 1) = ls.take n ++ [l] := by rw [List.take_add_one, hn]; rfl
    have e1 : total [l] = Poly.le (cut16 l) := Nat.add_zero _
    show (Pol.hashN 1 (joined ls) n + Pol.blockAt (joined ls) n) * 1 % P = _
    rw [Nat.mul_one, ih, hb, ht, total_append, Nat.mod_add_mod, e1]
    refine congrArg (· % P) ?_
    generalize total (ls.take n) = s
    generalize Poly.le (cut16 l) = x
    omega
def key1 : List UInt8 := 1 :: List.replicate 31 0
theorem key1_length : key1.length = 32 := rfl
theorem val_key1 : Poly.val (Pol.rOf key1) = 1 := by decide
theorem tag_one (ls : List (List UInt8)) (hl : ∀ l ∈ ls, l.length = 16) (hn : ls.length ≤ 15) : Pol.tagK key1 (joined ls) = Poly.bytes16 (total ls + 5 * (ls.length / 4)) := by
  rw [Pol.tagK_is key1_length, show Poly.le (key1.drop 16) = 0 by decide, Nat.add_zero]
  have hlen := joined_length ls hl
  rw [Pol.hash_full _ (by rw [hlen]; omega), val_key1, hlen, show 16 * ls.length / 16 = ls.length by omega, hashN_one ls hl ls.length (Nat.le_refl _), List.take_length]
  have ht := total_lt ls hl
  apply Poly.bytes16_inj
  generalize total ls = s at *
  generalize ls.length = n at *
  have hP : P = 1361129467683753853853498429727072845819 := by decide
  rw [hP]
  have hs : s ≤ 15 * 21267647932558653966460912964485513216 := Nat.le_trans ht (Nat.mul_le_mul_right _ hn)
  have hm : (s + n * 340282366920938463463374607431768211456) % 1361129467683753853853498429727072845819 = s + 5 * (n / 4) + (n % 4) * 340282366920938463463374607431768211456 := by
    have e : s + n * 340282366920938463463374607431768211456 = (s + 5 * (n / 4) + (n % 4) * 340282366920938463463374607431768211456) + (n / 4) * 1361129467683753853853498429727072845819 := by omega
    rw [e, Nat.add_mul_mod_self_right]
    apply Nat.mod_eq_of_lt
    omega
  rw [hm]
  omega
theorem lessB_add (a b : List UInt8) (hb : b.length = 16) : Pol.lessB a (Pol.lessB (List.replicate 16 0) b) = Poly.bytes16 (Poly.le a + Poly.le b) := by
  have h2 := Pol.le_lt16 hb
  unfold Pol.lessB
  apply Poly.bytes16_inj
  rw [Poly.le_bytes16, show Poly.le (List.replicate 16 0) = 0 by decide]
  generalize Poly.le a = x at *
  generalize Poly.le b = y at *
  omega
end PolOne
end Go.Proofs.Ytpldkkkenmdimaa
