/- The table of the rounds in memory; words turned right. -/
import Derived.Test.YtpllbnioncjhaaaDoorShaPure
import Derived.Test.YtpllbnioncjhaaaDoorRow
import Derived.Test.YtpllbnioncjhaaaDoorArr
import Derived.Lib.LaidTab
import Derived.Test.YtpllbnioncjhaaaDoorPolBase
import Derived.Laws.CopyOwn
import Derived.StillTailTactics
import Derived.Deep.QuietTactic
import Derived.BigQuiet
namespace Go.Proofs.YtpllbnioncjhaaaDoor
open Go.RowKit

theorem getD_cell (l : List UInt8) (k : Nat) (h : k < l.length) : (l.map bv)[k]? = some (bv (l.getD k 0)) := by
  rw [List.getElem?_map, List.getElem?_eq_getElem h, List.getD_eq_getElem?_getD, List.getElem?_eq_getElem h]
  rfl
theorem getD_word (s : List (BitVec 32)) (k : Nat) (h : k < s.length) : (s.map wv)[k]? = some (wv (Sha.at_ s k)) := by
  rw [List.getElem?_map, List.getElem?_eq_getElem h, Sha.at_, List.getD_eq_getElem?_getD, List.getElem?_eq_getElem h]
  rfl
theorem words_one (s : List (BitVec 32)) : ∀ v ∈ s.map wv, v.oneCell' = true := by
  intro v hv
  rw [List.mem_map] at hv
  obtain ⟨x, _, rfl⟩ := hv
  rfl
theorem bytes_one (s : List UInt8) : ∀ v ∈ s.map bv, v.oneCell' = true := by
  intro v hv
  rw [List.mem_map] at hv
  obtain ⟨x, _, rfl⟩ := hv
  rfl

theorem code_world {P : Program} {c : Code} {Q : Exit → Act → World → Prop} {a : Act} {w W : World} (h : w = W) (hk : Code.wp P c Q a W) : Code.wp P c Q a w := h ▸ hk
theorem wpList_in {P : Program} {ops : Array Oper} {l : List Oper} {a : Act} {w W : World} {Q : Exit → Act → World → Prop} (h : w = W) (hk : wpList P ops Q l a W) : wpList P ops Q l a w := h ▸ hk
/-- 'copy' into a row: the row behind it; all else stays. -/
theorem wpList_copy_keep {P : Program} {w : World} {ops : Array Oper} {rest : List Oper} {o : Oper} {a : Act} {Q : Exit → Act → World → Prop} (hgd : o.guard = none) (d s : Operand) (dT sT : TypeId)
    (ho : o.op = .call { callee := .builtin .copy, args := #[d, s], argTypes := #[dT, sT] }) (elem : TypeId) (hu : P.underlying dT = some (.slice elem)) (hsz : (P.info? elem).map (·.size) = some 1)
    {g off dLen dCap : Nat} {ad : Addr} {sLen sCap : Nat} (hd : a.eval d = .slice (some ⟨g, off, none⟩) dLen dCap) (hs : a.eval s = .slice (some ad) sLen sCap)
    {cur : List Value} {t : TypeId} (hg : Row w g cur t) (cs : List Value) (hn : cs.length = Nat.min sLen dLen)
    (hsrc : ∀ j v, cs[j]? = some v → w.cell? (ad.add j) = some v) (hfit : off + cs.length ≤ cur.length) (h1 : ∀ v ∈ cs, v.oneCell' = true)
    (h : ∀ w', Row w' g (splice cur off cs) t → Ev.Keep ⟨w, fun k => k = g⟩ w' → wpList P ops Q rest (a.put o.dst (goInt cs.length)) w') : wpList P ops Q (o :: rest) a w := by
  refine wpList_copy_own hgd d s dT sT ho elem hu hsz g off dLen dCap ad sLen sCap hd hs cur.toArray t hg cs hn hsrc (by simpa using hfit) h1 (h _ ?_ ⟨rfl, rfl, rfl, by simp [World.setRow], fun k hk => setRow_other w g k _ fun e => hk (.inr e)⟩)
  exact setRow_heap w g _ _ t _ hg
theorem Row.keep {w w' : World} {g k : Nat} {cs : List Value} {t : TypeId} (h : Row w k cs t) (hk : Ev.Keep ⟨w, fun k => k = g⟩ w') (hne : k ≠ g) : Row w' k cs t := by
  unfold Row
  rw [hk.block k (by
    rintro (e | e)
    · have := h.lt; have e' : w.heap.size ≤ k := e; omega
    · exact hne e)]
  exact h
theorem Below.keep {B : Nat} {w0 w w' : World} {g : Nat} (h : Below B w0 w) (hk : Ev.Keep ⟨w, fun k => k = g⟩ w') (hB : B ≤ w.heap.size) (hg : B ≤ g) : Below B w0 w' :=
  h.trans ⟨hk.os, hk.tape, hk.output, hk.size, fun k hlt => hk.block k (by
    rintro (e | e)
    · have e' : w.heap.size ≤ k := e; omega
    · have e' : k = g := e; omega)⟩

/-- The package's table lies in block 0. -/
def Tab (w : World) : Prop := 0 < w.heap.size ∧ ∀ i, i < 64 → w.cell? ⟨0, i, none⟩ = some (wv (Sha.at_ Sha.K i))
theorem Tab.below {w w' : World} {B : Nat} (h : Tab w) (hb : Below B w w') (hB : 0 < B) : Tab w' :=
  ⟨Nat.lt_of_lt_of_le h.1 hb.size, fun i hi => (hb.cell (p := ⟨0, i, none⟩) hB).trans (h.2 i hi)⟩
theorem Tab.drewN {w : World} (h : Tab w) (n : Nat) : Tab (w.drewN n) := h

def rights : List Nat := [2, 6, 7, 11, 13, 17, 18, 19, 22, 25]
theorem rights_bits (n : Nat) (hn : n ∈ rights) : bits .and .u64 (IntKind.u64.wrap (-(n : Int))) 31 = ((32 - n : Nat) : Int) ∧ n < 32 := by
  simp only [rights, List.mem_cons, List.not_mem_nil, or_false] at hn
  rcases hn with rfl | rfl | rfl | rfl | rfl | rfl | rfl | rfl | rfl | rfl <;> exact ⟨by decide, by decide⟩
theorem rot_any (x : BitVec 32) (n : Nat) (hn : n ∈ rights) (w : World) : Calls Tryd.prog 68 #[wv x, .int .i64 (-(n : Int))] w fun e w' => e = .returned (wv (Sha.rotr x n)) ∧ w = w' := by
  obtain ⟨hb, hlt⟩ := rights_bits n hn
  obtain ⟨m, hm⟩ : ∃ m, 32 - n = m := ⟨_, rfl⟩
  rw [hm] at hb
  have hu : IntKind.u64.wrap (32 - (m : Int)) = (n : Int) := by rw [show (32 : Int) - (m : Int) = (n : Int) by omega]; exact IntWalk.u64_in _ (by omega)
  have e1 : (x.toNat : Int) * 2 ^ min m 32 % 4294967296 = ((x <<< m).toNat : Int) := by rw [show min m 32 = m by omega, ← w_shl x m, Int.natCast_pow]; rfl
  have e2 : (x.toNat : Int) / 2 ^ n = ((x >>> n).toNat : Int) := by rw [← w_shr x n, Int.natCast_pow]; rfl
  have E1 := Lib.hid e1
  have E2 := Lib.hid e2
  have Hm := Lib.hid hm
  clear e1 e2 hm hn
  go_enter Tryd.func68, Tryd.ntmps68
  go_wp2
  rw [E1.out, E2.out, w_or]
  go_ret
  exact ⟨by rw [Sha.rotr, Hm.out]; rfl, rfl⟩
theorem right_any (x : BitVec 32) (n : Nat) (hn : n ∈ rights) (w : World) : Calls Tryd.prog 54 #[wv x, .int .i64 (n : Int)] w fun e w' => e = .returned (wv (Sha.rotr x n)) ∧ w = w' := by
  have hw : IntKind.i64.wrap (-(n : Int)) = -(n : Int) := IntWalk.i64_in _ (by have := (rights_bits n hn).2; omega)
  go_enter Tryd.func54, Tryd.ntmps54
  go_wp2_with fail
  refine (rot_any x n hn _).mono ?_
  rintro e w1 ⟨rfl, rfl⟩
  go_wp2
  go_ret
  exact ⟨rfl, rfl⟩
end Go.Proofs.YtpllbnioncjhaaaDoor
