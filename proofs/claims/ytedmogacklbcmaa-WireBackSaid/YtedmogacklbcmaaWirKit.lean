/- drawbridgekit's Msg: messages of the same contents are alike. -/
import Derived.Test.YtedmogacklbcmaaWirBytes
import Derived.Test.YtedmogacklbcmaaWirReadEnt
import Derived.Test.YtedmogacklbcmaaCfgSetPeer
import Derived.Test.YtedmogacklbcmaaKit
namespace Go.Proofs.Ytedmogacklbcmaa.Wir
open Go.RowKit Cfg Num
theorem not_11 : ∀ b1 b2 b3 b4 b5 b6 b7 b8 b9 : Bool, bits .andNot .i64 (bits .or .i64 (bits .or .i64 (bits .or .i64 (bits .or .i64 (bits .or .i64 (bits .or .i64 (bits .or .i64 (bits .or .i64 (mk 1 b1) (mk 2 b2)) (mk 4 b3)) (mk 8 b4)) (mk 16 b5)) (mk 32 b6)) (mk 64 b7)) (mk 128 b8)) (mk 256 b9)) 11 = 0 → b6 = false ∧ b8 = false := by decide
theorem not_143 : ∀ b1 b2 b3 b4 b5 b6 b7 b8 b9 : Bool, bits .andNot .i64 (bits .or .i64 (bits .or .i64 (bits .or .i64 (bits .or .i64 (bits .or .i64 (bits .or .i64 (bits .or .i64 (bits .or .i64 (mk 1 b1) (mk 2 b2)) (mk 4 b3)) (mk 8 b4)) (mk 16 b5)) (mk 32 b6)) (mk 64 b7)) (mk 128 b8)) (mk 256 b9)) 143 = 0 → b6 = false := by decide
theorem not_67 : ∀ b1 b2 b3 b4 b5 b6 b7 b8 b9 : Bool, bits .andNot .i64 (bits .or .i64 (bits .or .i64 (bits .or .i64 (bits .or .i64 (bits .or .i64 (bits .or .i64 (bits .or .i64 (bits .or .i64 (mk 1 b1) (mk 2 b2)) (mk 4 b3)) (mk 8 b4)) (mk 16 b5)) (mk 32 b6)) (mk 64 b7)) (mk 128 b8)) (mk 256 b9)) 67 = 0 → b6 = false ∧ b8 = false := by decide
theorem not_16 : ∀ b1 b2 b3 b4 b5 b6 b7 b8 b9 : Bool, bits .andNot .i64 (bits .or .i64 (bits .or .i64 (bits .or .i64 (bits .or .i64 (bits .or .i64 (bits .or .i64 (bits .or .i64 (bits .or .i64 (mk 1 b1) (mk 2 b2)) (mk 4 b3)) (mk 8 b4)) (mk 16 b5)) (mk 32 b6)) (mk 64 b7)) (mk 128 b8)) (mk 256 b9)) 16 = 0 → b6 = false ∧ b8 = false := by decide
theorem not_49 : ∀ b1 b2 b3 b4 b5 b6 b7 b8 b9 : Bool, bits .andNot .i64 (bits .or .i64 (bits .or .i64 (bits .or .i64 (bits .or .i64 (bits .or .i64 (bits .or .i64 (bits .or .i64 (bits .or .i64 (mk 1 b1) (mk 2 b2)) (mk 4 b3)) (mk 8 b4)) (mk 16 b5)) (mk 32 b6)) (mk 64 b7)) (mk 128 b8)) (mk 256 b9)) 49 = 0 → b8 = false := by decide
theorem not_263 : ∀ b1 b2 b3 b4 b5 b6 b7 b8 b9 : Bool, bits .andNot .i64 (bits .or .i64 (bits .or .i64 (bits .or .i64 (bits .or .i64 (bits .or .i64 (bits .or .i64 (bits .or .i64 (bits .or .i64 (mk 1 b1) (mk 2 b2)) (mk 4 b3)) (mk 8 b4)) (mk 16 b5)) (mk 32 b6)) (mk 64 b7)) (mk 128 b8)) (mk 256 b9)) 263 = 0 → b6 = false ∧ b8 = false := by decide
theorem valid_range {m : Ms} (h : checkMZ m = 0) : (1 ≤ m.kind ∧ m.kind ≤ 7) ∧ (0 ≤ m.node ∧ m.node ≤ 2) ∧ m.es.length ≤ 32 ∧ m.body.length ≤ 1048576 ∧ ∀ e ∈ m.es, okE e = true := by
  unfold checkMZ at h
  split at h
  · cases h
  · rename_i hl
    split at h
    · rename_i hv
      simp only [okM, Bool.and_eq_true, Bool.or_eq_true, decide_eq_true_eq, beq_iff_eq] at hv
      obtain ⟨⟨⟨⟨h1, h2⟩, hn⟩, hd⟩, hc⟩ := hv
      have hlen : m.es.length ≤ 32 ∧ m.body.length ≤ 1048576 := by omega
      have nil_of : ((m.es.length : Int) != 0) = false → ∀ e ∈ m.es, okE e = true := by
        intro h e he
        have h0 : (m.es.length : Int) = 0 := by simpa using h
        have : m.es = [] := List.length_eq_zero_iff.1 (by omega)
        rw [this] at he
        cases he
      have cont_of : contB m = true → ∀ e ∈ m.es, okE e = true := by
        intro h
        simp only [contB, Bool.and_eq_true] at h
        exact rows_ok h.2
      have zero_of : (m.node != 0) = false → 0 ≤ m.node ∧ m.node ≤ 2 := by
        intro h
        have h0 : m.node = 0 := by simpa using h
        omega
      have node_of : isNodeB m = true → 0 ≤ m.node ∧ m.node ≤ 2 := by
        intro h
        simp only [isNodeB, Bool.and_eq_true, decide_eq_true_eq] at h
        split at h <;> omega
      unfold notMZ usedMZ at hn
      refine ⟨⟨h1, h2⟩, ?_, hlen.1, hlen.2, ?_⟩
      all_goals
        rcases (show m.kind = 1 ∨ m.kind = 2 ∨ m.kind = 3 ∨ m.kind = 4 ∨ m.kind = 5 ∨ m.kind = 6 ∨ m.kind = 7 by omega) with k | k | k | k | k | k | k
        all_goals rw [k] at hn hd hc
      · exact zero_of (not_11 _ _ _ _ _ _ _ _ _ hn).1
      · exact zero_of (not_143 _ _ _ _ _ _ _ _ _ hn)
      · exact zero_of (not_67 _ _ _ _ _ _ _ _ _ hn).1
      · exact zero_of (not_16 _ _ _ _ _ _ _ _ _ hn).1
      · exact node_of (hd.resolve_left (by decide))
      · exact node_of (hd.resolve_left (by decide))
      · exact zero_of (not_263 _ _ _ _ _ _ _ _ _ hn).1
      · exact nil_of (not_11 _ _ _ _ _ _ _ _ _ hn).2
      · exact cont_of (hc.resolve_left (by decide))
      · exact nil_of (not_67 _ _ _ _ _ _ _ _ _ hn).2
      · exact nil_of (not_16 _ _ _ _ _ _ _ _ _ hn).2
      · exact nil_of (not_49 _ _ _ _ _ _ _ _ _ hn)
      · exact nil_of (not_49 _ _ _ _ _ _ _ _ _ hn)
      · exact nil_of (not_263 _ _ _ _ _ _ _ _ _ hn).2
    · cases h
end Go.Proofs.Ytedmogacklbcmaa.Wir
namespace Go.Proofs.Ytedmogacklbcmaa.Wir
open Go.RowKit Cfg Num RdP CpA
/-- Entries in blocks: none as soon as one block is no entry. -/
def rdE (b : List UInt8) : Nat → Nat → Nat → Option (List En × Nat × Nat)
  | 0, a, e => some ([], a, e)
  | k + 1, a, e => match rdE b k a e with
    | none => none
    | some (l, a1, e1) => match rdEnt (rdBlock b a1 e1).1 with
      | none => none
      | some x => some (l ++ [x], (rdBlock b a1 e1).2.1, (rdBlock b a1 e1).2.2)
theorem rdE_succ {b : List UInt8} {k a e a1 e1 a2 e2 : Nat} {l : List En} {m : List UInt8} (h : rdE b k a e = some (l, a1, e1)) (hb : rdBlock b a1 e1 = (m, a2, e2)) : rdE b (k + 1) a e = (rdEnt m).map fun x => (l ++ [x], a2, e2) := by
  show (match rdE b k a e with | none => none | some (l, a1, e1) => match rdEnt (rdBlock b a1 e1).1 with | none => none | some x => some (l ++ [x], (rdBlock b a1 e1).2.1, (rdBlock b a1 e1).2.2)) = _
  rw [h]
  dsimp only
  rw [hb]
  cases rdEnt m <;> rfl
theorem rdE_none {b : List UInt8} {k n a e : Nat} (h : rdE b k a e = none) (hk : k ≤ n) : rdE b n a e = none := by
  induction n with
  | zero =>
    have : k = 0 := by omega
    subst this
    exact h
  | succ n ih =>
    by_cases hn : k = n + 1
    · subst hn
      exact h
    · have := ih (by omega)
      show (match rdE b n a e with | none => none | some (l, a1, e1) => _) = _
      rw [this]
theorem rdE_zero {b : List UInt8} {a e : Nat} : ∀ {n a' : Nat} {l : List En}, rdE b n a e = some (l, a', 0) → e = 0 ∧ b.drop a = l.flatMap (fun x => blk x.enc) ++ b.drop a' ∧ l.length = n ∧ ∀ x ∈ l, okE x = true ∧ x.K ∧ x.R := by
  intro n
  induction n with
  | zero =>
    intro a' l h
    simp only [rdE, Option.some.injEq, Prod.mk.injEq] at h
    obtain ⟨rfl, rfl, rfl⟩ := h
    exact ⟨rfl, rfl, rfl, by simp⟩
  | succ n ih =>
    intro a' l h
    cases h1 : rdE b n a e with
    | none =>
      have := rdE_none h1 (Nat.le_succ n)
      rw [this] at h
      cases h
    | some y =>
      obtain ⟨l1, a1, e1⟩ := y
      obtain ⟨m, a2, e2, hb⟩ : ∃ x y z, rdBlock b a1 e1 = (x, y, z) := ⟨_, _, _, rfl⟩
      rw [rdE_succ h1 hb] at h
      cases hm : rdEnt m with
      | none =>
        rw [hm] at h
        cases h
      | some x =>
        rw [hm] at h
        simp only [Option.map_some, Option.some.injEq, Prod.mk.injEq] at h
        obtain ⟨rfl, rfl, rfl⟩ := h
        obtain ⟨rfl, k2, _⟩ := Wir.block_zero hb
        obtain ⟨rfl, k1, hl, hx⟩ := ih h1
        obtain ⟨g1, g2, g3, g4⟩ := rdEnt_bytes hm
        refine ⟨rfl, ?_, by simp [hl], ?_⟩
        · rw [k1, k2, List.flatMap_append, g1.symm]
          simp
        · intro z hz
          rcases List.mem_append.1 hz with hz | hz
          · exact hx z hz
          · obtain rfl := List.mem_singleton.1 hz
            exact ⟨g2, g3, g4⟩
theorem rdE_own {l : List En} (hV : ∀ e ∈ l, okE e = true) (hK : ∀ e ∈ l, e.K) (hR : ∀ e ∈ l, e.R) (p r : List UInt8) : ∀ k, k ≤ l.length → rdE (p ++ (l.flatMap (fun x => blk x.enc) ++ r)) k p.length 0 = some (l.take k, (p ++ (l.take k).flatMap (fun x => blk x.enc)).length, 0) := by
  intro k
  induction k with
  | zero =>
    intro _
    simp [rdE]
  | succ k ih =>
    intro hk
    have h1 := ih (by omega)
    obtain ⟨x, hx⟩ : ∃ x, l[k]? = some x := ⟨_, List.getElem?_eq_getElem (by omega)⟩
    have hmem := List.mem_of_getElem? hx
    have hsplit : l = l.take k ++ x :: l.drop (k + 1) := by
      rw [(List.getElem?_eq_some_iff.1 hx).2.symm, ← List.drop_eq_getElem_cons (by omega), List.take_append_drop]
    have htk : l.take (k + 1) = l.take k ++ [x] := by
      rw [List.take_add_one, hx]
      rfl
    have hB : p ++ (l.flatMap (fun x => blk x.enc) ++ r) = (p ++ (l.take k).flatMap (fun x => blk x.enc)) ++ (blk x.enc ++ ((l.drop (k + 1)).flatMap (fun x => blk x.enc) ++ r)) := by
      conv => lhs; rw [hsplit]
      simp [List.flatMap_append, List.flatMap_cons]
    have hlen := En.enc_le (hK x hmem) (hV x hmem) (hR x hmem)
    have hpos := En.enc_pos x
    have h2 := block_own x.enc (by omega) hpos (p ++ (l.take k).flatMap (fun x => blk x.enc)) ((l.drop (k + 1)).flatMap (fun x => blk x.enc) ++ r)
    rw [← hB] at h2
    rw [rdE_succ h1 h2, rdEnt_own x (hK x hmem) (hV x hmem) (hR x hmem), htk]
    simp [List.flatMap_append]
def rdMsg (b : List UInt8) : Option Ms :=
  match rdUpto b 0 0 7 with
  | (k, a1, e1) => match rdUpto b a1 e1 4294967295 with
    | (p, a2, e2) => match rdNumber b a2 e2 with
      | (x, a3, e3) => match rdUpto b a3 e3 4294967295 with
        | (v, a4, e4) => match rdNumber b a4 e4 with
          | (t, a5, e5) => match rdNumber b a5 e5 with
            | (f, a6, e6) => match rdUpto b a6 e6 2 with
              | (d, a7, e7) => match rdUpto b a7 e7 1 with
                | (i, a8, e8) => match rdUpto b a8 e8 32 with
                  | (n, a9, e9) => match rdE b n a9 e9 with
                    | none => none
                    | some (l, a, e) => match rdBlock b a e with
                      | (m, a', e') => if rdEnd b a' e' = 0 ∧ checkMZ ⟨(k : Int), (p : Int), (x : Int), (v : Int), (t : Int), (f : Int), (d : Int), (i : Int) == 1, l, m⟩ = 0 then some ⟨(k : Int), (p : Int), (x : Int), (v : Int), (t : Int), (f : Int), (d : Int), (i : Int) == 1, l, m⟩ else none
section
variable {b : List UInt8} {k p x v t f d i n a1 a2 a3 a4 a5 a6 a7 a8 a9 e1 e2 e3 e4 e5 e6 e7 e8 e9 : Nat}
structure Heads (b : List UInt8) (k p x v t f d i n a1 a2 a3 a4 a5 a6 a7 a8 a9 e1 e2 e3 e4 e5 e6 e7 e8 e9 : Nat) : Prop where
  h1 : rdUpto b 0 0 7 = (k, a1, e1)
  h2 : rdUpto b a1 e1 4294967295 = (p, a2, e2)
  h3 : rdNumber b a2 e2 = (x, a3, e3)
  h4 : rdUpto b a3 e3 4294967295 = (v, a4, e4)
  h5 : rdNumber b a4 e4 = (t, a5, e5)
  h6 : rdNumber b a5 e5 = (f, a6, e6)
  h7 : rdUpto b a6 e6 2 = (d, a7, e7)
  h8 : rdUpto b a7 e7 1 = (i, a8, e8)
  h9 : rdUpto b a8 e8 32 = (n, a9, e9)
theorem rdMsg_eq (h : Heads b k p x v t f d i n a1 a2 a3 a4 a5 a6 a7 a8 a9 e1 e2 e3 e4 e5 e6 e7 e8 e9) :
    rdMsg b = match rdE b n a9 e9 with
      | none => none
      | some (l, a, e) => match rdBlock b a e with
        | (m, a', e') => if rdEnd b a' e' = 0 ∧ checkMZ ⟨(k : Int), (p : Int), (x : Int), (v : Int), (t : Int), (f : Int), (d : Int), (i : Int) == 1, l, m⟩ = 0 then some ⟨(k : Int), (p : Int), (x : Int), (v : Int), (t : Int), (f : Int), (d : Int), (i : Int) == 1, l, m⟩ else none := by
  unfold rdMsg
  rw [h.h1]; dsimp only
  rw [h.h2]; dsimp only
  rw [h.h3]; dsimp only
  rw [h.h4]; dsimp only
  rw [h.h5]; dsimp only
  rw [h.h6]; dsimp only
  rw [h.h7]; dsimp only
  rw [h.h8]; dsimp only
  rw [h.h9]
end
theorem bit_eq (i : Nat) (h : i ≤ 1) : bnat ((i : Int) == 1) = i := by
  rcases (show i = 0 ∨ i = 1 by omega) with rfl | rfl <;> rfl
theorem bit_of (z : Bool) : ((bnat z : Int) == 1) = z := by cases z <;> rfl
theorem rdMsg_bytes {b : List UInt8} {m : Ms} (h : rdMsg b = some m) : m.enc = b ∧ checkMZ m = 0 ∧ m.R ∧ (∀ e ∈ m.es, e.K) := by
  obtain ⟨k, a1, e1, h1⟩ : ∃ x y z, rdUpto b 0 0 7 = (x, y, z) := ⟨_, _, _, rfl⟩
  obtain ⟨p, a2, e2, h2⟩ : ∃ x y z, rdUpto b a1 e1 4294967295 = (x, y, z) := ⟨_, _, _, rfl⟩
  obtain ⟨x, a3, e3, h3⟩ : ∃ x y z, rdNumber b a2 e2 = (x, y, z) := ⟨_, _, _, rfl⟩
  obtain ⟨v, a4, e4, h4⟩ : ∃ x y z, rdUpto b a3 e3 4294967295 = (x, y, z) := ⟨_, _, _, rfl⟩
  obtain ⟨t, a5, e5, h5⟩ : ∃ x y z, rdNumber b a4 e4 = (x, y, z) := ⟨_, _, _, rfl⟩
  obtain ⟨f, a6, e6, h6⟩ : ∃ x y z, rdNumber b a5 e5 = (x, y, z) := ⟨_, _, _, rfl⟩
  obtain ⟨d, a7, e7, h7⟩ : ∃ x y z, rdUpto b a6 e6 2 = (x, y, z) := ⟨_, _, _, rfl⟩
  obtain ⟨i, a8, e8, h8⟩ : ∃ x y z, rdUpto b a7 e7 1 = (x, y, z) := ⟨_, _, _, rfl⟩
  obtain ⟨n, a9, e9, h9⟩ : ∃ x y z, rdUpto b a8 e8 32 = (x, y, z) := ⟨_, _, _, rfl⟩
  rw [rdMsg_eq ⟨h1, h2, h3, h4, h5, h6, h7, h8, h9⟩] at h
  cases hE : rdE b n a9 e9 with
  | none =>
    rw [hE] at h
    cases h
  | some y =>
    obtain ⟨l, a, e⟩ := y
    rw [hE] at h
    dsimp only at h
    obtain ⟨q, a', e', hb⟩ : ∃ x y z, rdBlock b a e = (x, y, z) := ⟨_, _, _, rfl⟩
    rw [hb] at h
    dsimp only at h
    split at h
    · rename_i hn
      injection h with h
      obtain ⟨rfl, hd⟩ := end_zero hn.1
      obtain ⟨rfl, kb, _⟩ := Wir.block_zero hb
      obtain ⟨rfl, kE, hlen, hall⟩ := rdE_zero hE
      obtain ⟨rfl, k9, m9, _⟩ := upto_zero h9
      obtain ⟨rfl, k8, m8, _⟩ := upto_zero h8
      obtain ⟨rfl, k7, m7, _⟩ := upto_zero h7
      obtain ⟨rfl, k6, m6⟩ := num_zero h6
      obtain ⟨rfl, k5, m5⟩ := num_zero h5
      obtain ⟨rfl, k4, m4, _⟩ := upto_zero h4
      obtain ⟨rfl, k3, m3⟩ := num_zero h3
      obtain ⟨rfl, k2, m2, _⟩ := upto_zero h2
      obtain ⟨_, k1, m1, _⟩ := upto_zero h1
      subst h
      refine ⟨?_, hn.2, ⟨⟨by simp, by simp only; omega⟩, ⟨by simp, by simp only; omega⟩, ⟨by simp, by simp only; omega⟩, ⟨by simp, by simp only; omega⟩, ⟨by simp, by simp only; omega⟩, fun e he => (hall e he).2.2⟩, fun e he => (hall e he).2.1⟩
      rw [List.drop_zero] at k1
      conv => rhs; rw [k1, k2, k3, k4, k5, k6, k7, k8, k9, kE, kb, hd, List.append_nil]
      unfold Ms.enc Ms.head
      simp only [Int.toNat_natCast]
      rw [bit_eq i m8, hlen]
      simp [encs]
    · cases h
theorem rdMsg_own (m : Ms) (hV : checkMZ m = 0) (hK : ∀ e ∈ m.es, e.K) (hR : m.R) (r : List UInt8) : rdMsg (m.enc ++ r) = if rdEnd (m.enc ++ r) m.enc.length 0 = 0 then some m else none := by
  obtain ⟨⟨v1, v2⟩, ⟨v3, v4⟩, v5, v6, v7⟩ := valid_range hV
  have hV0 := hV
  obtain ⟨r1, r2, r3, r4, r5, r6⟩ := hR
  obtain ⟨kind, ep, ix, prev, upto, ref, node, is, es, body⟩ := m
  simp only at v1 v2 v3 v4 v5 v6 v7 r1 r2 r3 r4 r5 r6 hK
  obtain ⟨k', rfl⟩ : ∃ n : Nat, kind = (n : Int) := ⟨kind.toNat, by omega⟩
  obtain ⟨p', rfl⟩ : ∃ n : Nat, ep = (n : Int) := ⟨ep.toNat, by omega⟩
  obtain ⟨x', rfl⟩ : ∃ n : Nat, ix = (n : Int) := ⟨ix.toNat, by omega⟩
  obtain ⟨v', rfl⟩ : ∃ n : Nat, prev = (n : Int) := ⟨prev.toNat, by omega⟩
  obtain ⟨t', rfl⟩ : ∃ n : Nat, upto = (n : Int) := ⟨upto.toNat, by omega⟩
  obtain ⟨f', rfl⟩ : ∃ n : Nat, ref = (n : Int) := ⟨ref.toNat, by omega⟩
  obtain ⟨d', rfl⟩ : ∃ n : Nat, node = (n : Int) := ⟨node.toNat, by omega⟩
  obtain ⟨i', hi⟩ : ∃ n, bnat is = n := ⟨_, rfl⟩
  have hi1 : i' ≤ 1 := by rw [← hi]; cases is <;> decide
  have his : ((i' : Int) == 1) = is := by rw [← hi]; exact bit_of is
  obtain ⟨B, hB⟩ : ∃ B, (⟨(k' : Int), (p' : Int), (x' : Int), (v' : Int), (t' : Int), (f' : Int), (d' : Int), is, es, body⟩ : Ms).enc ++ r = B := ⟨_, rfl⟩
  have hB2 : B = Oct.enc k' ++ (Oct.enc p' ++ (Oct.enc x' ++ (Oct.enc v' ++ (Oct.enc t' ++ (Oct.enc f' ++ (Oct.enc d' ++ (Oct.enc i' ++ (Oct.enc es.length ++ (es.flatMap (fun e => blk e.enc) ++ (Oct.enc body.length ++ (body ++ r))))))))))) := by
    rw [← hB]
    unfold Ms.enc Ms.head
    simp only [Int.toNat_natCast]
    rw [hi]
    simp [encs, blk]
  have h1 := upto_own k' 7 (by omega) (by omega) [] (Oct.enc p' ++ (Oct.enc x' ++ (Oct.enc v' ++ (Oct.enc t' ++ (Oct.enc f' ++ (Oct.enc d' ++ (Oct.enc i' ++ (Oct.enc es.length ++ (es.flatMap (fun e => blk e.enc) ++ (Oct.enc body.length ++ (body ++ r)))))))))))
  have h2 := upto_own p' 4294967295 (by omega) (by omega) (Oct.enc k') (Oct.enc x' ++ (Oct.enc v' ++ (Oct.enc t' ++ (Oct.enc f' ++ (Oct.enc d' ++ (Oct.enc i' ++ (Oct.enc es.length ++ (es.flatMap (fun e => blk e.enc) ++ (Oct.enc body.length ++ (body ++ r))))))))))
  have h3 := num_own x' (by omega) (Oct.enc k' ++ Oct.enc p') (Oct.enc v' ++ (Oct.enc t' ++ (Oct.enc f' ++ (Oct.enc d' ++ (Oct.enc i' ++ (Oct.enc es.length ++ (es.flatMap (fun e => blk e.enc) ++ (Oct.enc body.length ++ (body ++ r)))))))))
  have h4 := upto_own v' 4294967295 (by omega) (by omega) (Oct.enc k' ++ Oct.enc p' ++ Oct.enc x') (Oct.enc t' ++ (Oct.enc f' ++ (Oct.enc d' ++ (Oct.enc i' ++ (Oct.enc es.length ++ (es.flatMap (fun e => blk e.enc) ++ (Oct.enc body.length ++ (body ++ r))))))))
  have h5 := num_own t' (by omega) (Oct.enc k' ++ Oct.enc p' ++ Oct.enc x' ++ Oct.enc v') (Oct.enc f' ++ (Oct.enc d' ++ (Oct.enc i' ++ (Oct.enc es.length ++ (es.flatMap (fun e => blk e.enc) ++ (Oct.enc body.length ++ (body ++ r)))))))
  have h6 := num_own f' (by omega) (Oct.enc k' ++ Oct.enc p' ++ Oct.enc x' ++ Oct.enc v' ++ Oct.enc t') (Oct.enc d' ++ (Oct.enc i' ++ (Oct.enc es.length ++ (es.flatMap (fun e => blk e.enc) ++ (Oct.enc body.length ++ (body ++ r))))))
  have h7 := upto_own d' 2 (by omega) (by omega) (Oct.enc k' ++ Oct.enc p' ++ Oct.enc x' ++ Oct.enc v' ++ Oct.enc t' ++ Oct.enc f') (Oct.enc i' ++ (Oct.enc es.length ++ (es.flatMap (fun e => blk e.enc) ++ (Oct.enc body.length ++ (body ++ r)))))
  have h8 := upto_own i' 1 (by omega) hi1 (Oct.enc k' ++ Oct.enc p' ++ Oct.enc x' ++ Oct.enc v' ++ Oct.enc t' ++ Oct.enc f' ++ Oct.enc d') (Oct.enc es.length ++ (es.flatMap (fun e => blk e.enc) ++ (Oct.enc body.length ++ (body ++ r))))
  have h9 := upto_own es.length 32 (by omega) (by omega) (Oct.enc k' ++ Oct.enc p' ++ Oct.enc x' ++ Oct.enc v' ++ Oct.enc t' ++ Oct.enc f' ++ Oct.enc d' ++ Oct.enc i') (es.flatMap (fun e => blk e.enc) ++ (Oct.enc body.length ++ (body ++ r)))
  have hE := rdE_own v7 hK r6 (Oct.enc k' ++ Oct.enc p' ++ Oct.enc x' ++ Oct.enc v' ++ Oct.enc t' ++ Oct.enc f' ++ Oct.enc d' ++ Oct.enc i' ++ Oct.enc es.length) (Oct.enc body.length ++ (body ++ r)) es.length (Nat.le_refl _)
  rw [List.take_length] at hE
  have hb := RdP.block_own body (by omega) (Oct.enc k' ++ Oct.enc p' ++ Oct.enc x' ++ Oct.enc v' ++ Oct.enc t' ++ Oct.enc f' ++ Oct.enc d' ++ Oct.enc i' ++ Oct.enc es.length ++ es.flatMap (fun e => blk e.enc)) r
  simp only [List.nil_append, List.append_assoc, List.length_nil] at h1 h2 h3 h4 h5 h6 h7 h8 h9 hE hb
  simp only [← hB2] at h1 h2 h3 h4 h5 h6 h7 h8 h9 hE hb
  rw [hB, rdMsg_eq ⟨h1, h2, h3, h4, h5, h6, h7, h8, h9⟩, hE]
  dsimp only
  rw [hb]
  dsimp only
  have hlen : (Oct.enc k' ++ (Oct.enc p' ++ (Oct.enc x' ++ (Oct.enc v' ++ (Oct.enc t' ++ (Oct.enc f' ++ (Oct.enc d' ++ (Oct.enc i' ++ (Oct.enc es.length ++ (es.flatMap (fun e => blk e.enc) ++ (Oct.enc body.length ++ body))))))))))).length = (⟨(k' : Int), (p' : Int), (x' : Int), (v' : Int), (t' : Int), (f' : Int), (d' : Int), is, es, body⟩ : Ms).enc.length := by
    unfold Ms.enc Ms.head
    simp only [Int.toNat_natCast]
    rw [hi]
    simp [encs, blk]
    try omega
  rw [hlen, his]
  by_cases hend : rdEnd B (⟨(k' : Int), (p' : Int), (x' : Int), (v' : Int), (t' : Int), (f' : Int), (d' : Int), is, es, body⟩ : Ms).enc.length 0 = 0
  · rw [if_pos ⟨hend, hV0⟩, if_pos hend]
  · rw [if_neg (fun h => hend h.1), if_neg hend]
theorem rdMsg_more (m : Ms) (hV : checkMZ m = 0) (hK : ∀ e ∈ m.es, e.K) (hR : m.R) : rdMsg (m.enc ++ [0]) = none := by
  rw [rdMsg_own m hV hK hR, if_neg]
  unfold rdEnd
  rw [if_pos ⟨rfl, by simp⟩]
  decide
theorem rdMsg_same (m : Ms) (hV : checkMZ m = 0) (hK : ∀ e ∈ m.es, e.K) (hR : m.R) : rdMsg m.enc = some m := by
  have h := rdMsg_own m hV hK hR []
  rw [List.append_nil] at h
  rw [h, if_pos (end_own _)]
end Go.Proofs.Ytedmogacklbcmaa.Wir
namespace Go.Proofs.Ytedmogacklbcmaa.Wir
open Go.RowKit Cfg Num RdK CpA
theorem wpList_appE {ops : Array Oper} {rest : List Oper} {o : Oper} {a : Act} {w : World} {Q : Exit → Act → World → Prop} (hgd : o.guard = none) (so xo : Operand) (hty : o.type = 50) (ho : o.op = .call { callee := .builtin .append, args := #[so, xo], argTypes := #[50, 50] })
    {base B : Nat} {v y : Value} {l r : List En} (hsv : a.eval so = v) (hown : OwnE w base v l) (hyv : a.eval xo = y) (hy : ETab w B y r) (hlen : l.length + r.length ≤ 1000000) (hbase : base ≤ w.heap.size)
    (h : ∀ v' w', OwnE w' base v' (l ++ r) → w.grownBy w' v.ownBlock → wpList Try.prog ops Q rest (a.put o.dst v') w') : wpList Try.prog ops Q (o :: rest) a w := by
  refine wpList_plain hgd fun K hK => ?_
  obtain ⟨v', w', hr, h2, h3, _⟩ := run_appE w hown hy hlen hbase
  unfold Oper.wp execOp
  simp only [ho, hty, resolve, invoke, builtin, Sem.run_bind, Sem.run_pure, Result.andThen_ok, List.map_toArray, List.map_cons, List.map_nil, hsv, hyv, hr]
  exact hK _ _ (h v' w' h2 h3)
theorem ETab.one {w : World} {g B : Nat} {m : En} (hk : m.K) (h : Row w g m.cs 49) (hB : g < B) : ETab w B (.slice (some ⟨g, 0, none⟩) 1 1) [m] :=
  ⟨fun x hx => by simp at hx; subst hx; exact hk, _, 1, rfl, Nat.le_refl _, by simp [ecs, En.len hk], fun _ => ⟨g, 0, rfl, hB, fun j x hx => by rw [Nat.zero_add]; exact h.cell (by simpa [ecs] using hx)⟩⟩
theorem ownE_grown {w w' : World} {base : Nat} {v : Value} {l : List En} {row : Option Nat} (h : OwnE w base v l) (hg : w.grownBy w' row) (hr : ∀ i, row = some i → i < base) : OwnE w' base v l := ⟨h.1, RdL.owns_grown h.2 hg hr⟩
theorem ownE_below {w w' : World} {base : Nat} {v : Value} {l : List En} (h : OwnE w base v l) (hb : Below w.heap.size w w') : OwnE w' base v l := ⟨h.1, owns_below h.2 hb⟩
theorem row_other {w w' : World} {k : Nat} {cs : List Value} {t : TypeId} {row : Option Nat} (h : Row w k cs t) (hg : w.grownBy w' row) (hne : row ≠ some k) : Row w' k cs t := by
  unfold Row
  rw [hg.block k h.lt (fun e => hne e.symm)]
  exact h
theorem run_bs_ent {ov : Value} {x : En} (h : ov = .agg x.cs.toArray) (hk : x.K) (w : World) : (Instr.buildSlice 50 1 #[(0, ov)]).run Try.prog w = .ok (.slice (some ⟨w.heap.size, 0, none⟩) 1 1) (w.alloc (.cells x.cs.toArray 49)) := by
  obtain ⟨i, z, hi, hz, hs, _, hzs⟩ := info_ent
  rw [h]
  exact run_bs_one (P := Try.prog) Try.underlying50 hi hz hs hzs (by decide) (by decide) x.cs (En.len hk) w
/-- What a call of the closure changes: the reader's block, what was kept, the entries, and what is above. -/
def Hol (g eb kb base : Nat) (i : Nat) : Prop := i = g ∨ i = kb ∨ i = eb ∨ base ≤ i
set_option maxRecDepth 100000 in
set_option maxHeartbeats 4000000 in
theorem clo_any {w : World} {lo g rb eb kb base : Nat} {b : List UInt8} {a e : Nat} {v : Value} {es : List En} {k0 : Int}
    (hrd : Rd w lo g b a e) (hrb : Row w rb [.pointer (some ⟨g, 0, none⟩)] 100) (heb : Row w eb [v] 50) (hkb : Row w kb [.int .i64 k0] 34) (hown : OwnE w base v es) (hord : g < rb ∧ rb < eb ∧ eb < kb ∧ kb < base) (hbs : base ≤ w.heap.size) (hn : es.length ≤ 40) :
    Calls Try.prog 104 #[.pointer (some ⟨rb, 0, none⟩), .pointer (some ⟨kb, 0, none⟩), .pointer (some ⟨eb, 0, none⟩)] w fun r w' =>
      ((∃ x v', rdEnt (rdBlock b a e).1 = some x ∧ r = .returned (.bool true) ∧ Row w' eb [v'] 50 ∧ OwnE w' base v' (es ++ [x]) ∧ Row w' kb [.int .i64 0] 34) ∨ (rdEnt (rdBlock b a e).1 = none ∧ r = .returned (.bool false) ∧ Row w' kb [.int .i64 4] 34))
      ∧ Rd w' lo g b (rdBlock b a e).2.1 (rdBlock b a e).2.2 ∧ Ev.Keep ⟨w, Hol g eb kb base⟩ w' := by
  obtain ⟨m, a2, e2, hb2⟩ : ∃ x y z, rdBlock b a e = (x, y, z) := ⟨_, _, _, rfl⟩
  have HM := Lib.hid hb2
  have HML := Lib.hid (show m.length ≤ 1048576 by have := block_len b a e; rwa [hb2] at this)
  rw [hb2]
  have HRD := Lib.hid hrd
  have HRB := Lib.hid hrb
  have HEB := Lib.hid heb
  have HKB := Lib.hid hkb
  have HO := Lib.hid hown
  have HORD := Lib.hid hord
  have HBS := Lib.hid hbs
  have HNN := Lib.hid hn
  have HVB := Lib.hid (show ∀ i, v.ownBlock = some i → i < w.heap.size from fun i e => (hown.2.lt i e).2)
  clear hrd hrb heb hkb hown hord hbs hb2 hn
  go_enter Try.func104, Try.ntmps104
  go_wp2_with (first
    | (refine QB.wpList_alloc rfl 49 rfl zero_ent' ?_; intro V hr0 hb0
       have HE0 := Lib.hid (show Row V w.heap.size zen.cs 49 from hr0)
       have HB0 := Lib.hid hb0
       have m0 := (HRB.out.below hb0 HRB.out.lt).cell (i := 0) rfl
       clear hr0 hb0)
    | fail)
  clear m0
  refine (RBlock_any (HRD.out.below HB0.out (rd_lt HRD.out))).mono ?_
  rw [HM.out]
  rintro r w1 ⟨v1, rfl, ho, hr, hgr⟩
  have HG := Lib.hid (show g < w.heap.size by have := HORD.out; have := HBS.out; omega)
  have HD1 := Lib.hid hr
  have HK1 := Lib.hid (RdL.keep_row (RdL.keep_row (row := none) (keep_id w (Hol g eb kb base)) (only_of_below HB0.out none) (fun k e => by cases e)) hgr (fun k e => by injection e with e; exact .inl e.symm))
  have HE1 := Lib.hid (row_grown HE0.out hgr (by have := HG.out; omega))
  have HKB1 := Lib.hid (row_grown (HKB.out.below HB0.out HKB.out.lt) hgr (by have := HORD.out; omega))
  have HEB1 := Lib.hid (row_grown (HEB.out.below HB0.out HEB.out.lt) hgr (by have := HORD.out; omega))
  have HO1 := Lib.hid (ownE_grown (ownE_below HO.out HB0.out) hgr (fun i e => by injection e with e; have := HORD.out; omega))
  have HOB := Lib.hid ho
  obtain ⟨A1, n1, rfl⟩ := ho.shape
  clear hr hgr ho HRD HE0 HKB HEB HO HB0 HRB
  go_wp2_with fail
  refine (ReadEntry_any _ m w1 HOB.out.bs (by have := HML.out; omega)).mono ?_
  rintro r w2 ⟨hs1, hs2, hb2⟩
  have HD2 := Lib.hid (HD1.out.below hb2 (rd_lt HD1.out))
  have HK2 := Lib.hid (RdL.keep_row (row := none) HK1.out (only_of_below hb2 none) (fun k e => by cases e))
  have HE2 := Lib.hid (HE1.out.below hb2 HE1.out.lt)
  have HKB2 := Lib.hid (HKB1.out.below hb2 HKB1.out.lt)
  have HEB2 := Lib.hid (HEB1.out.below hb2 HEB1.out.lt)
  have HO2 := Lib.hid (ownE_below HO1.out hb2)
  obtain ⟨gE, hgE⟩ : ∃ q, w.heap.size = q := ⟨_, rfl⟩
  rw [hgE] at HE2 HVB ⊢
  have HGE := Lib.hid (show kb < gE ∧ base ≤ gE by have := HORD.out; have := HBS.out; omega)
  clear hb2 HD1 HK1 HE1 HKB1 HEB1 HO1 HOB hgE
  cases hq : rdEnt m with
  | some x =>
    have hr := hs1 x hq
    subst hr
    have HX := Lib.hid (rdEnt_bytes hq).2.2.1
    obtain ⟨ov, hov⟩ : ∃ ov, x.val = ov := ⟨_, rfl⟩
    have HPV := Lib.hid (show ov = .agg x.cs.toArray from hov.symm)
    rw [hov]
    clear hs1 hs2 hov
    go_wp2_with (first
      | (refine wpList_storeRow rfl 49 _ _ rfl rfl (cs := x.cs) HPV.out HE2.out (by kernel_rfl) (En.len HX.out) (En.len zen_K) x.one ?_
         refine QB.name fun W3 hW => ?_
         have hgr : w2.grownBy W3 (some gE) := hW ▸ only_setRow _
         have HE3 := Lib.hid (show Row W3 gE x.cs 49 from hW ▸ HE2.out.setRow _)
         have HD3 := Lib.hid (HD2.out.grown hgr (fun k hk => by injection hk with hk; exact .inl (by have := HG.out; have := HGE.out; have := HORD.out; omega)))
         have HK3 := Lib.hid (RdL.keep_row HK2.out hgr (fun k e => by injection e with e; exact .inr (.inr (.inr (by have := HGE.out; omega)))))
         have HKB3 := Lib.hid (row_grown HKB2.out hgr (by have := HGE.out; omega))
         have HEB3 := Lib.hid (row_grown HEB2.out hgr (by have := HGE.out; have := HORD.out; omega))
         have HO3 := Lib.hid (show OwnE W3 base v es from ⟨HO2.out.1, World.ownsRow.kept HO2.out.2 hgr (by cases hv : v.ownBlock with | none => exact .inl rfl | some i => exact .inr fun e => by injection e with e; have := HVB.out i hv; omega)⟩)
         have m3 := HKB3.out.cell (i := 0) rfl
         have f3 := frozen_row HKB3.out 0
         clear hW hgr HE2 HD2 HK2 HKB2 HEB2 HO2)
      | (show wpList _ _ _ (⟨some 13, _, _, _, _, _⟩ :: _) _ _
         refine QB.name fun W4 hW => ?_
         have hgr : W3.grownBy W4 (some kb) := hW ▸ only_put1 0 _
         have HKB4 := Lib.hid (show Row W4 kb [.int .i64 0] 34 from hW ▸ HKB3.out.set 0 _)
         have HE4 := Lib.hid (row_grown HE3.out hgr (by have := HGE.out; omega))
         have HD4 := Lib.hid (HD3.out.grown hgr (fun k hk => by injection hk with hk; exact .inl (by have := HORD.out; omega)))
         have HK4 := Lib.hid (RdL.keep_row HK3.out hgr (fun k e => by injection e with e; exact .inr (.inl e.symm)))
         have HEB4 := Lib.hid (row_grown HEB3.out hgr (by have := HORD.out; omega))
         have HO4 := Lib.hid (ownE_grown HO3.out hgr (fun i e => by injection e with e; have := HORD.out; omega))
         have HLD := Lib.hid (show (loadVar 49 ⟨gE, 0, none⟩).run Try.prog W4 = .ok ov W4 by rw [HPV.out]; exact l_ent HE4.out HX.out)
         have HB1 := Lib.hid (run_bs_ent HPV.out HX.out W4)
         have m4 := HEB4.out.cell (i := 0) rfl
         clear hW hgr HKB3 HE3 HD3 HK3 HEB3 HO3)
      | (refine QB.wpList_ld 49 rfl rfl HLD.out (by kernel_rfl) ?_; clear HLD)
      | (refine wpList_bs rfl 50 1 _ rfl (ps := #[(0, ov)]) (by kernel_rfl) HB1.out ?_
         refine QB.name fun W5 hW => ?_
         have hb5 : Below W4.heap.size W4 W5 := hW ▸ (Below.refl _ W4).alloc (Nat.le_refl _) _
         have HT5 := Lib.hid (show ETab W5 W5.heap.size (.slice (some ⟨W4.heap.size, 0, none⟩) 1 1) [x] from hW ▸ ETab.one HX.out (Row.new rfl rfl) (by simp))
         have HO5 := Lib.hid (ownE_below HO4.out hb5)
         have HKB5 := Lib.hid (HKB4.out.below hb5 HKB4.out.lt)
         have HEB5 := Lib.hid (HEB4.out.below hb5 HEB4.out.lt)
         have HD5 := Lib.hid (HD4.out.below hb5 (rd_lt HD4.out))
         have HK5 := Lib.hid (RdL.keep_row (row := none) HK4.out (only_of_below hb5 none) (fun k e => by cases e))
         have HS5 := Lib.hid (show gE < W5.heap.size from Nat.lt_of_lt_of_le HE4.out.lt hb5.size)
         clear hW hb5 HB1 HO4 HKB4 HEB4 HD4 HK4 HE4)
      | (refine wpList_appE rfl (.tmp 13) (.tmp 15) rfl rfl rfl HO5.out rfl HT5.out (by have := HNN.out; simp; omega) (by have := HS5.out; have := HGE.out; omega) ?_
         intro v' W6 ho6 hg6
         obtain ⟨A6, n6, e6, _⟩ := ho6.tab.2.shape
         rw [show (es ++ [x]).length = es.length + 1 by simp] at e6
         subst e6
         have HVL := Lib.hid (fun i (e : v.ownBlock = some i) => (HO5.out.2.lt i e).1)
         have HO6 := Lib.hid ho6
         have HKB6 := Lib.hid (row_other HKB5.out hg6 (fun e => by have := HVL.out _ e; have := HORD.out; omega))
         have HEB6 := Lib.hid (row_other HEB5.out hg6 (fun e => by have := HVL.out _ e; have := HORD.out; omega))
         have HD6 := Lib.hid (HD5.out.grown hg6 (fun k hk => .inl (by have := HVL.out _ hk; have := HORD.out; omega)))
         have HK6 := Lib.hid (RdL.keep_row HK5.out hg6 (fun k e => .inr (.inr (.inr (HVL.out _ e)))))
         have m6 := HEB6.out.cell (i := 0) rfl
         have f6 := frozen_row HEB6.out 0
         clear ho6 hg6 HO5 HT5 HKB5 HEB5 HD5 HK5)
      | (show wpList _ _ _ (⟨some 17, _, _, _, _, _⟩ :: _) _ _
         refine QB.name fun W7 hW => ?_
         have hgr : W6.grownBy W7 (some eb) := hW ▸ only_put1 0 _
         have HKB7 := Lib.hid (row_grown HKB6.out hgr (by have := HORD.out; omega))
         have HEB7 := Lib.hid (show Row W7 eb [.slice A6 (es.length + 1) n6] 50 from hW ▸ HEB6.out.set 0 _)
         have HD7 := Lib.hid (HD6.out.grown hgr (fun k hk => by injection hk with hk; exact .inl (by have := HORD.out; omega)))
         have HK7 := Lib.hid (RdL.keep_row HK6.out hgr (fun k e => by injection e with e; exact .inr (.inr (.inl e.symm))))
         have HO7 := Lib.hid (ownE_grown HO6.out hgr (fun i e => by injection e with e; have := HORD.out; omega))
         have m7 := HKB7.out.cell (i := 0) rfl
         clear hW hgr HKB6 HEB6 HD6 HK6 HO6)
      | fail)
    go_ret
    exact ⟨.inl ⟨x, _, hq, rfl, HEB7.out, HO7.out, HKB7.out⟩, HD7.out, HK7.out⟩
  | none =>
    have hr := hs2 hq
    subst hr
    obtain ⟨ov, hov⟩ : ∃ ov, zen.val = ov := ⟨_, rfl⟩
    have HPV := Lib.hid (show ov = .agg zen.cs.toArray from hov.symm)
    rw [hov]
    clear hs1 hs2 hov
    go_wp2_with (first
      | (refine wpList_storeRow rfl 49 _ _ rfl rfl (cs := zen.cs) HPV.out HE2.out (by kernel_rfl) (En.len zen_K) (En.len zen_K) zen.one ?_
         refine QB.name fun W3 hW => ?_
         have hgr : w2.grownBy W3 (some gE) := hW ▸ only_setRow _
         have HD3 := Lib.hid (HD2.out.grown hgr (fun k hk => by injection hk with hk; exact .inl (by have := HG.out; have := HGE.out; have := HORD.out; omega)))
         have HK3 := Lib.hid (RdL.keep_row HK2.out hgr (fun k e => by injection e with e; exact .inr (.inr (.inr (by have := HGE.out; omega)))))
         have HKB3 := Lib.hid (row_grown HKB2.out hgr (by have := HGE.out; omega))
         have m3 := HKB3.out.cell (i := 0) rfl
         have f3 := frozen_row HKB3.out 0
         clear hW hgr HE2 HD2 HK2 HKB2 HEB2 HO2)
      | fail)
    go_ret
    exact ⟨.inr ⟨hq, rfl, HKB3.out.set 0 _⟩, HD3.out.grown (only_put1 0 _) (fun k hk => by injection hk with hk; exact .inl (by have := HORD.out; omega)), RdL.keep_row HK3.out (only_put1 0 _) (fun k e => by injection e with e; exact .inr (.inl e.symm))⟩
theorem ownE_nil (w : World) (base : Nat) : OwnE w base (.slice none 0 0) [] := ⟨fun _ h => by simp at h, by simp [ecs], .inl ⟨rfl, rfl⟩⟩
theorem keep_grown {w wr w2 : World} {g eb kb base : Nat} (h : w.grownBy wr (some g)) (k : Ev.Keep ⟨wr, Hol g eb kb base⟩ w2) (h1 : w.heap.size ≤ eb) (h2 : w.heap.size ≤ kb) (h3 : w.heap.size ≤ base) : w.grownBy w2 (some g) := by
  refine ⟨k.os.trans h.os, k.tape.trans h.tape, k.output.trans h.output, Nat.le_trans h.size k.size, fun i hi hne => ?_⟩
  rw [k.block i (by
    rintro (e | e | e | e | e)
    · exact absurd e (by have := h.size; show ¬ wr.heap.size ≤ i; omega)
    · exact hne (by rw [e])
    · omega
    · omega
    · omega)]
  exact h.block i hi hne
/-- What stands at the loop's head. -/
structure LPE (w : World) (lo g rb eb kb base : Nat) (b : List UInt8) (a e k : Nat) (W : World) : Prop where
  st : ∃ (l : List En) (a1 e1 : Nat) (v : Value) (k0 : Int), rdE b k a e = some (l, a1, e1) ∧ l.length = k ∧ Rd W lo g b a1 e1 ∧ Row W eb [v] 50 ∧ OwnE W base v l ∧ Row W kb [.int .i64 k0] 34
  rb : Row W rb [.pointer (some ⟨g, 0, none⟩)] 100
  size : base ≤ W.heap.size
  keep : w.grownBy W (some g)
theorem rdE_len {b : List UInt8} : ∀ {n a e a' e' : Nat} {l : List En}, rdE b n a e = some (l, a', e') → l.length = n := by
  intro n
  induction n with
  | zero =>
    intro a e a' e' l h
    simp only [rdE, Option.some.injEq, Prod.mk.injEq] at h
    rw [← h.1]
    rfl
  | succ n ih =>
    intro a e a' e' l h
    cases h1 : rdE b n a e with
    | none =>
      rw [rdE_none h1 (Nat.le_succ n)] at h
      cases h
    | some y =>
      obtain ⟨l1, a1, e1⟩ := y
      obtain ⟨m, a2, e2, hb⟩ : ∃ x y z, rdBlock b a1 e1 = (x, y, z) := ⟨_, _, _, rfl⟩
      rw [rdE_succ h1 hb] at h
      cases hm : rdEnt m with
      | none =>
        rw [hm] at h
        cases h
      | some x =>
        rw [hm] at h
        simp only [Option.map_some, Option.some.injEq, Prod.mk.injEq] at h
        rw [← h.1, List.length_append, ih h1]
        rfl
set_option maxRecDepth 100000 in
set_option maxHeartbeats 4000000 in
theorem readEntries_any {w : World} {lo g : Nat} {b : List UInt8} {a e n a9 e9 : Nat} (hrd : Rd w lo g b a e) (hn : rdUpto b a e 32 = (n, a9, e9)) :
    Calls Try.prog 67 #[.pointer (some ⟨g, 0, none⟩)] w fun r w' =>
      (∀ l a' e', rdE b n a9 e9 = some (l, a', e') → ∃ v, r = .returned (.tuple #[v, .int .i64 0]) ∧ OwnE w' w.heap.size v l ∧ Rd w' lo g b a' e') ∧ (rdE b n a9 e9 = none → r = .returned (.tuple #[.slice none 0 0, .int .i64 4])) ∧ w.grownBy w' (some g) := by
  have HN := Lib.hid hn
  have HN32 := Lib.hid (show n ≤ 32 by have := RdP.upto_le b a e 32; rwa [hn] at this)
  have HD := Lib.hid hrd
  have HG := Lib.hid (rd_lt hrd)
  clear hrd hn
  go_enter Try.func67, Try.ntmps67
  go_wp2_with fail
  refine calls_name fun V hV => ?_
  have hrb : Row V w.heap.size [.pointer (some ⟨g, 0, none⟩)] 100 := hV ▸ ((Row.new rfl rfl).alloc _).alloc _
  have heb : Row V (w.heap.size + 1) [.slice none 0 0] 50 := hV ▸ (Row.new (by simp) rfl).alloc _
  have hkb : Row V (w.heap.size + 1 + 1) [.int .i64 0] 34 := hV ▸ Row.new (by simp) rfl
  have hb : Below w.heap.size w V := hV ▸ (((Below.refl _ w).alloc (Nat.le_refl _) _).alloc (by simp) _).alloc (by simp <;> omega) _
  have hsz : V.heap.size = w.heap.size + 1 + 1 + 1 := by rw [← hV]; simp
  clear hV
  refine (Upto_any 32 (HD.out.below hb HG.out)).mono ?_
  rw [HN.out]
  rintro r W1 ⟨rfl, hr, hgr⟩
  have HL0 := Lib.hid (show LPE w lo g w.heap.size (w.heap.size + 1) (w.heap.size + 1 + 1) (w.heap.size + 1 + 1 + 1) b a9 e9 0 W1 from
    ⟨⟨[], a9, e9, .slice none 0 0, 0, rfl, rfl, hr, row_grown heb hgr (by have := HG.out; omega), ownE_nil _ _, row_grown hkb hgr (by have := HG.out; omega)⟩, row_grown hrb hgr (by have := HG.out; omega), by rw [← hsz]; exact hgr.size, only_trans (only_of_below hb (some g)) hgr⟩)
  clear hr hgr hrb heb hkb hb hsz HD
  go_wp2_with fail
  go_loopw [10] (fun iv wr => ∃ k : Nat, k ≤ n ∧ iv = .int .u64 (k : Int) ∧ Hid (LPE w lo g w.heap.size (w.heap.size + 1) (w.heap.size + 1 + 1) (w.heap.size + 1 + 1 + 1) b a9 e9 k wr)) (fun iv _ => n - (intOf iv).toNat)
  case atStart => exact ⟨0, Nat.zero_le _, rfl, HL0⟩
  case round =>
    obtain ⟨k, hk, rfl, hL⟩ := hrel
    have hk2 : (k : Int) ≤ 32 := by have := HN32.out; omega
    by_cases hlt : k < n
    · have HLT := Lib.hid hlt
      obtain ⟨⟨l, a1, e1, v, k0, hq, hlen, hrd, hebr, hown, hkbr⟩, hrb, hsz, hkeep⟩ := hL.out
      have HC := Lib.hid (clo_any hrd hrb hebr hkbr hown ⟨HG.out, by omega, by omega, by omega⟩ hsz (by have := HN32.out; omega))
      have HQ := Lib.hid hq
      have HLEN := Lib.hid hlen
      have HSZ := Lib.hid hsz
      have HKP := Lib.hid hkeep
      have HRB := Lib.hid hrb
      clear hq hlen hrd hebr hown hkbr hrb hsz hkeep hL
      go_wp2_with fail
      refine HC.out.mono ?_
      rintro r w2 ⟨hcase, hrd2, hkeep2⟩
      have HKP2 := Lib.hid (keep_grown HKP.out hkeep2 (by omega) (by omega) (by omega))
      have HRB2 := Lib.hid (row_of hkeep2 HRB.out (by have := HG.out; unfold Hol; omega))
      have HSZ2 := Lib.hid (Nat.le_trans HSZ.out hkeep2.size)
      obtain ⟨m, a2, e2, hbk⟩ : ∃ x y z, rdBlock b a1 e1 = (x, y, z) := ⟨_, _, _, rfl⟩
      have HBK := Lib.hid hbk
      rw [hbk] at hcase hrd2
      rcases hcase with ⟨x, v', hx, rfl, h1, h2, h3⟩ | ⟨hx, rfl, h3⟩
      · have HL1 := Lib.hid (show LPE w lo g w.heap.size (w.heap.size + 1) (w.heap.size + 1 + 1) (w.heap.size + 1 + 1 + 1) b a9 e9 (k + 1) w2 from
          ⟨⟨l ++ [x], a2, e2, v', 0, by rw [rdE_succ HQ.out HBK.out, hx]; rfl, by simp [HLEN.out], hrd2, h1, h2, h3⟩, HRB2.out, HSZ2.out, HKP2.out⟩)
        clear hx h1 h2 h3 hrd2 hkeep2 hbk HC
        go_wp2_with fail
        go_roundw
        case rel => exact ⟨k + 1, hlt, by simp, HL1⟩
        case measure => simp [intOf]; omega
      · have HNO := Lib.hid (show rdE b n a9 e9 = none from rdE_none (k := k + 1) (by rw [rdE_succ HQ.out HBK.out, hx]; rfl) HLT.out)
        have m4 := h3.cell (i := 0) rfl
        clear hx h3 hrd2 hkeep2 hbk HC
        go_wp2_with fail
        go_quiet (fail)
        go_wp2
        go_ret2
        exact ⟨fun l' a' e' h' => absurd (HNO.out.symm.trans h') (by simp), fun _ => rfl, only_trans HKP2.out (only_drewN _ _ _)⟩
    · have hkn : k = n := by omega
      subst hkn
      obtain ⟨⟨l, a1, e1, v, k0, hq, hlen, hrd, hebr, hown, hkbr⟩, hrb, hsz, hkeep⟩ := hL.out
      have HQ := Lib.hid hq
      have HOW := Lib.hid hown
      have HRD := Lib.hid hrd
      have HKP := Lib.hid hkeep
      have m4 := hebr.cell (i := 0) rfl
      clear hq hlen hrd hebr hown hkbr hrb hsz hkeep hL
      go_wp2_with fail
      go_ret2
      refine ⟨fun l' a' e' h' => ?_, fun h => absurd (HQ.out.symm.trans h) (by simp), HKP.out⟩
      have e := Option.some.inj (HQ.out.symm.trans h')
      simp only [Prod.mk.injEq] at e
      obtain ⟨rfl, rfl, rfl⟩ := e
      exact ⟨_, rfl, ⟨HOW.out.1, own_less HOW.out.2 (by omega)⟩, HRD.out⟩
end Go.Proofs.Ytedmogacklbcmaa.Wir
namespace Go.Proofs.Ytedmogacklbcmaa.Wir
open Go.RowKit Cfg Num RdK CpA
/-- A message without entries and body. -/
def hd0 (k p x v t f d : Int) (i : Bool) : Ms := ⟨k, p, x, v, t, f, d, i, [], []⟩
def hcs (k p x v t f d : Int) (i : Bool) (a c : Value) : List Value := [.int .i64 k, .int .u32 p, .int .u64 x, .int .u32 v, .int .u64 t, .int .u64 f, .int .i64 d, .bool i, a, c]
theorem hcs_one (k p x v t f d : Int) (i : Bool) (A B : Option Addr) (a b c e : Nat) : ∀ u ∈ hcs k p x v t f d i (.slice A a b) (.slice B c e), u.oneCell' = true := by
  intro u hu
  simp only [hcs, List.mem_cons, List.not_mem_nil, or_false] at hu
  rcases hu with rfl | rfl | rfl | rfl | rfl | rfl | rfl | rfl | rfl | rfl <;> rfl
theorem zcs_one : ∀ u ∈ zcs, u.oneCell' = true := hcs_one 0 0 0 0 0 0 0 false none none 0 0 0 0
theorem build_msg (k p x v t f d : Int) (i : Bool) (w : World) : (Instr.build 52 #[(0, .int .i64 k), (1, .int .u32 p), (2, .int .u64 x), (3, .int .u32 v), (4, .int .u64 t), (5, .int .u64 f), (6, .int .i64 d), (7, .bool i)]).run Try.prog w = .ok (.agg (hcs k p x v t f d i (.slice none 0 0) (.slice none 0 0)).toArray) w := by kernel_rfl
theorem build_msg0 (w : World) : (Instr.build 52 #[]).run Try.prog w = .ok (.agg zcs.toArray) w := by kernel_rfl
theorem l_hcs {w : World} {g : Nat} {k p x v t f d : Int} {i : Bool} {a c : Value} (h : Row w g (hcs k p x v t f d i a c) 52) : (loadVar 52 ⟨g, 0, none⟩).run Try.prog w = .ok (.agg (hcs k p x v t f d i a c).toArray) w := l_msg (m := ⟨k, p, x, v, t, f, d, i, [], []⟩) h
set_option maxRecDepth 100000 in
set_option maxHeartbeats 8000000 in
theorem Read_any (v : Value) (b : List UInt8) (w : World) (hb : Bs w w.heap.size v b) (hl : b.length ≤ 35184372088832) :
    Calls Try.prog 24 #[v] w fun r w' => (∀ m, rdMsg b = some m → ∃ ve vb, r = .returned (.tuple #[.agg (m.cs ve vb).toArray, .int .i64 0]) ∧ OwnE w' w.heap.size ve m.es ∧ Own w' w.heap.size vb m.body) ∧ (rdMsg b = none → r = .returned (.tuple #[.agg zcs.toArray, .int .i64 4])) ∧ Below w.heap.size w w' := by
  have Hb := Lib.hid hb
  clear hb
  go_enter Try.func24, Try.ntmps24
  go_wp2_with (first
    | (refine QB.wpList_alloc rfl 52 rfl zero_msg ?_; intro V hr0 hb0)
    | fail)
  have hr0' : Row V w.heap.size zcs 52 := hr0
  refine (Go.Proofs.Ytedmogacklbcmaa.New_any _ b _ ((Hb.out.below hb0).more hb0.size) hl).mono ?_
  rintro r w1 ⟨g, rfl, hg1, hg2, hr1, hb1⟩
  have hg0 : w.heap.size < g := Nat.lt_of_lt_of_le hr0'.lt hg1
  have HB1 := Lib.hid (nextB hb0 (Nat.le_refl _) hb1)
  have HR1 := Lib.hid (hr0'.below hb1 hr0'.lt)
  have HD1 := Lib.hid hr1
  have HG := Lib.hid (show w.heap.size < g from hg0)
  clear hr0 hr0' hb0 hg1 hg2 hr1 hb1 hg0 Hb hl
  obtain ⟨z1, a1, e1, h⟩ : ∃ x a e, rdUpto b 0 0 7 = (x, a, e) := ⟨_, _, _, rfl⟩
  have H1 := Lib.hid h
  have hw1 := wrap_i64n z1 (by have := RdP.upto_le b 0 0 7; rw [h] at this; omega)
  clear h
  go_wp2_with fail
  refine (Upto_any 7 HD1.out).mono ?_
  rw [H1.out]
  rintro r w2 ⟨rfl, hr, hgr⟩
  have HD2 := Lib.hid hr
  have HB2 := Lib.hid (HB1.out.grown hgr HB1.out.size (fun q hq => by injection hq with hq; have := HG.out; omega))
  have HR2 := Lib.hid (row_grown HR1.out hgr (by have := HG.out; omega))
  clear hr hgr HD1 HB1 HR1
  obtain ⟨z2, a2, e2, h⟩ : ∃ x a e, rdUpto b a1 e1 4294967295 = (x, a, e) := ⟨_, _, _, rfl⟩
  have H2 := Lib.hid h
  clear h
  go_wp2_with fail
  refine (epoch_any HD2.out).mono ?_
  rw [H2.out]
  rintro r w3 ⟨rfl, hr, hgr⟩
  have HD3 := Lib.hid hr
  have HB3 := Lib.hid (HB2.out.grown hgr HB2.out.size (fun q hq => by injection hq with hq; have := HG.out; omega))
  have HR3 := Lib.hid (row_grown HR2.out hgr (by have := HG.out; omega))
  clear hr hgr HD2 HB2 HR2
  obtain ⟨z3, a3, e3, h⟩ : ∃ x a e, rdNumber b a2 e2 = (x, a, e) := ⟨_, _, _, rfl⟩
  have H3 := Lib.hid h
  clear h
  go_wp2_with fail
  refine (RNumber_any HD3.out).mono ?_
  rw [H3.out]
  rintro r w4 ⟨rfl, hr, hgr⟩
  have HD4 := Lib.hid hr
  have HB4 := Lib.hid (HB3.out.grown hgr HB3.out.size (fun q hq => by injection hq with hq; have := HG.out; omega))
  have HR4 := Lib.hid (row_grown HR3.out hgr (by have := HG.out; omega))
  clear hr hgr HD3 HB3 HR3
  obtain ⟨z4, a4, e4, h⟩ : ∃ x a e, rdUpto b a3 e3 4294967295 = (x, a, e) := ⟨_, _, _, rfl⟩
  have H4 := Lib.hid h
  clear h
  go_wp2_with fail
  refine (epoch_any HD4.out).mono ?_
  rw [H4.out]
  rintro r w5 ⟨rfl, hr, hgr⟩
  have HD5 := Lib.hid hr
  have HB5 := Lib.hid (HB4.out.grown hgr HB4.out.size (fun q hq => by injection hq with hq; have := HG.out; omega))
  have HR5 := Lib.hid (row_grown HR4.out hgr (by have := HG.out; omega))
  clear hr hgr HD4 HB4 HR4
  obtain ⟨z5, a5, e5, h⟩ : ∃ x a e, rdNumber b a4 e4 = (x, a, e) := ⟨_, _, _, rfl⟩
  have H5 := Lib.hid h
  clear h
  go_wp2_with fail
  refine (RNumber_any HD5.out).mono ?_
  rw [H5.out]
  rintro r w6 ⟨rfl, hr, hgr⟩
  have HD6 := Lib.hid hr
  have HB6 := Lib.hid (HB5.out.grown hgr HB5.out.size (fun q hq => by injection hq with hq; have := HG.out; omega))
  have HR6 := Lib.hid (row_grown HR5.out hgr (by have := HG.out; omega))
  clear hr hgr HD5 HB5 HR5
  obtain ⟨z6, a6, e6, h⟩ : ∃ x a e, rdNumber b a5 e5 = (x, a, e) := ⟨_, _, _, rfl⟩
  have H6 := Lib.hid h
  clear h
  go_wp2_with fail
  refine (RNumber_any HD6.out).mono ?_
  rw [H6.out]
  rintro r w7 ⟨rfl, hr, hgr⟩
  have HD7 := Lib.hid hr
  have HB7 := Lib.hid (HB6.out.grown hgr HB6.out.size (fun q hq => by injection hq with hq; have := HG.out; omega))
  have HR7 := Lib.hid (row_grown HR6.out hgr (by have := HG.out; omega))
  clear hr hgr HD6 HB6 HR6
  obtain ⟨z7, a7, e7, h⟩ : ∃ x a e, rdUpto b a6 e6 2 = (x, a, e) := ⟨_, _, _, rfl⟩
  have H7 := Lib.hid h
  have hw7 := wrap_i64n z7 (by have := RdP.upto_le b a6 e6 2; rw [h] at this; omega)
  clear h
  go_wp2_with fail
  refine (Upto_any 2 HD7.out).mono ?_
  rw [H7.out]
  rintro r w8 ⟨rfl, hr, hgr⟩
  have HD8 := Lib.hid hr
  have HB8 := Lib.hid (HB7.out.grown hgr HB7.out.size (fun q hq => by injection hq with hq; have := HG.out; omega))
  have HR8 := Lib.hid (row_grown HR7.out hgr (by have := HG.out; omega))
  clear hr hgr HD7 HB7 HR7
  obtain ⟨z8, a8, e8, h⟩ : ∃ x a e, rdUpto b a7 e7 1 = (x, a, e) := ⟨_, _, _, rfl⟩
  have H8 := Lib.hid h
  obtain ⟨ob, hob⟩ : ∃ ob, ((z8 : Int) == 1) = ob := ⟨_, rfl⟩
  have HOBE := Lib.hid hob
  clear h
  go_wp2_with fail
  refine (Upto_any 1 HD8.out).mono ?_
  rw [H8.out]
  rintro r w9 ⟨rfl, hr, hgr⟩
  have HD9 := Lib.hid hr
  have HB9 := Lib.hid (HB8.out.grown hgr HB8.out.size (fun q hq => by injection hq with hq; have := HG.out; omega))
  have HR9 := Lib.hid (row_grown HR8.out hgr (by have := HG.out; omega))
  clear hr hgr HD8 HB8 HR8
  obtain ⟨O, hO⟩ : ∃ O, hcs (z1 : Int) (z2 : Int) (z3 : Int) (z4 : Int) (z5 : Int) (z6 : Int) (z7 : Int) ob (.slice none 0 0) (.slice none 0 0) = O := ⟨_, rfl⟩
  have HBO := Lib.hid (build_msg (z1 : Int) (z2 : Int) (z3 : Int) (z4 : Int) (z5 : Int) (z6 : Int) (z7 : Int) ob w9)
  rw [hO] at HBO
  have HO := Lib.hid hO
  have HOL := Lib.hid (show O.length = 10 by rw [← hO]; rfl)
  have HO1 := Lib.hid (show ∀ u ∈ O, u.oneCell' = true by rw [← hO]; exact hcs_one _ _ _ _ _ _ _ _ _ _ _ _ _ _)
  clear hO
  go_wp2_with (first
    | (refine wpList_bp rfl 52 _ rfl (ps := #[(0, .int .i64 (z1 : Int)), (1, .int .u32 (z2 : Int)), (2, .int .u64 (z3 : Int)), (3, .int .u32 (z4 : Int)), (4, .int .u64 (z5 : Int)), (5, .int .u64 (z6 : Int)), (6, .int .i64 (z7 : Int)), (7, .bool ob)]) (by kernel_rfl) HBO.out ?_; clear HBO)
    | (refine QB.wpList_alloc rfl 52 rfl zero_msg ?_; intro W8 hr8 hb8; have HR8 := Lib.hid (show Row W8 w9.heap.size zcs 52 from hr8); have HB8 := Lib.hid hb8; clear hr8 hb8)
    | (refine wpList_storeRow rfl 52 _ _ rfl rfl (cs := O) rfl HR8.out (by kernel_rfl) HOL.out rfl HO1.out ?_
       refine QB.name fun W10 hW => ?_
       have hbw : Below w9.heap.size w9 W10 := hW ▸ below_setRow HB8.out (Nat.le_refl _) _
       have HRO := Lib.hid (show Row W10 w9.heap.size O 52 from hW ▸ HR8.out.setRow _)
       have HD10 := Lib.hid (HD9.out.below hbw (rd_lt HD9.out))
       have HB10 := Lib.hid (nextB HB9.out (Nat.le_refl _) hbw)
       have HR10 := Lib.hid (HR9.out.below hbw HR9.out.lt)
       have HGO := Lib.hid (show g < w9.heap.size from rd_lt HD9.out)
       clear hW hbw HR8 HB8 HD9 HB9 HR9)
    | fail)
  obtain ⟨gm, hgm⟩ : ∃ q, w9.heap.size = q := ⟨_, rfl⟩
  rw [hgm] at HRO HGO ⊢
  rw [← HO.out] at HRO
  have HGM := Lib.hid (show w.heap.size < gm by have := HG.out; have := HGO.out; omega)
  clear hgm HO HOL HO1
  obtain ⟨n, a9, e9, h⟩ : ∃ x a e, rdUpto b a8 e8 32 = (x, a, e) := ⟨_, _, _, rfl⟩
  have HEQ := Lib.hid (rdMsg_eq ⟨H1.out, H2.out, H3.out, H4.out, H5.out, H6.out, H7.out, H8.out, h⟩)
  rw [HOBE.out] at HEQ
  refine (readEntries_any HD10.out h).mono ?_
  rintro r w11 ⟨hs1, hs2, hgr⟩
  have HB11 := Lib.hid (HB10.out.grown hgr HB10.out.size (fun q hq => by injection hq with hq; have := HG.out; omega))
  have HR11 := Lib.hid (row_grown HR10.out hgr (by have := HG.out; omega))
  have HRO11 := Lib.hid (row_grown HRO.out hgr (by have := HGO.out; omega))
  have HS10 := Lib.hid (show gm < W10.heap.size from HRO.out.lt)
  clear hgr h HD10 HB10 HR10 HRO H1 H2 H3 H4 H5 H6 H7 H8
  cases hE : rdE b n a9 e9 with
  | none =>
    have hr := hs2 hE
    subst hr
    rw [hE] at HEQ
    clear hs1 hs2 hE
    have HB0 := Lib.hid (build_msg0 w11)
    go_wp2_with (first
      | (refine wpList_bp rfl 52 _ rfl (ps := #[]) (by kernel_rfl) HB0.out ?_; clear HB0)
      | (refine wpList_storeRow rfl 52 _ _ rfl rfl (cs := zcs) rfl HR11.out (by kernel_rfl) rfl rfl zcs_one ?_
         refine QB.name fun V2 hV2 => ?_
         have R2 := Lib.hid (show Row V2 w.heap.size zcs 52 from hV2 ▸ Row.setRow HR11.out _)
         have HBV := Lib.hid (show Below w.heap.size w V2 from hV2 ▸ below_setRow HB11.out (Nat.le_refl _) _)
         clear hV2)
      | fail)
    refine bodyPost_ret (results_ct (cs := zcs) rfl rfl R2.out Try.underlying52 rfl (by kernel_rfl) rfl) rfl ?_
    exact ⟨fun o ho => absurd (HEQ.out.symm.trans ho) (by simp), fun _ => rfl, HBV.out⟩
  | some y =>
    obtain ⟨l, aE, eE⟩ := y
    obtain ⟨ve, hr, hoE, hrd⟩ := hs1 l aE eE hE
    subst hr
    rw [hE] at HEQ
    obtain ⟨A1, n1, e1', _⟩ := hoE.tab.2.shape
    subst e1'
    have HOE := Lib.hid hoE
    have HD11 := Lib.hid hrd
    clear hs1 hs2 hE hoE hrd
    go_wp2_with fail
    obtain ⟨m, a10, e10, h⟩ : ∃ x a e, rdBlock b aE eE = (x, a, e) := ⟨_, _, _, rfl⟩
    refine (RBlock_any HD11.out).mono ?_
    simp only [h] at HEQ
    rw [h]
    rintro r w12 ⟨v12, rfl, ho, hr, hgr⟩
    obtain ⟨A2, n2, rfl⟩ := ho.shape
    have HOB := Lib.hid ho
    have HS11 := Lib.hid (show gm < w11.heap.size from HRO11.out.lt)
    have HD12 := Lib.hid hr
    have HB12 := Lib.hid (HB11.out.grown hgr HB11.out.size (fun q hq => by injection hq with hq; have := HG.out; omega))
    have HR12 := Lib.hid (row_grown HR11.out hgr (by have := HG.out; omega))
    have HRO12 := Lib.hid (row_grown HRO11.out hgr (by have := HGO.out; omega))
    have HOE12 := Lib.hid (ownE_grown HOE.out hgr (fun i e => by injection e with e; have := HGO.out; have := HS10.out; omega))
    have m8 := HRO12.out.cell (i := 8) rfl
    have f8 := frozen_row HRO12.out 8
    clear h ho hr hgr HD11 HB11 HR11 HRO11 HOE
    go_wp2_with (first
      | (show wpList _ _ _ (⟨some 43, _, _, _, _, _⟩ :: _) _ _
         refine QB.name fun W13 hW => ?_
         have hgr : w12.grownBy W13 (some gm) := hW ▸ only_put1 8 _
         have HRO13 := Lib.hid (show Row W13 gm (hcs (z1 : Int) (z2 : Int) (z3 : Int) (z4 : Int) (z5 : Int) (z6 : Int) (z7 : Int) ob (.slice A1 l.length n1) (.slice none 0 0)) 52 from hW ▸ HRO12.out.set 8 _)
         have HD13 := Lib.hid (HD12.out.grown hgr (fun k hk => by injection hk with hk; exact .inl (by have := HGO.out; omega)))
         have HB13 := Lib.hid (HB12.out.grown hgr HB12.out.size (fun q hq => by injection hq with hq; have := HGM.out; omega))
         have HR13 := Lib.hid (row_grown HR12.out hgr (by have := HGM.out; omega))
         have HOE13 := Lib.hid (ownE_grown HOE12.out hgr (fun i e => by injection e with e; have := HS10.out; omega))
         have HOB13 := Lib.hid (Own.kept HOB.out hgr (by cases hv : (Value.slice A2 m.length n2).ownBlock with | none => exact .inl rfl | some i => exact .inr fun e => by injection e with e; have := (HOB.out.block_ge hv).1; have := HS11.out; omega))
         have m9 := HRO13.out.cell (i := 9) rfl
         have f9 := frozen_row HRO13.out 9
         clear hW hgr HRO12 HD12 HB12 HR12 HOE12 HOB m8 f8)
      | fail)
    refine calls_name fun W14 hW => ?_
    have hgr : W13.grownBy W14 (some gm) := hW ▸ only_put1 9 _
    have HRO14 := Lib.hid (show Row W14 gm (hcs (z1 : Int) (z2 : Int) (z3 : Int) (z4 : Int) (z5 : Int) (z6 : Int) (z7 : Int) ob (.slice A1 l.length n1) (.slice A2 m.length n2)) 52 from hW ▸ HRO13.out.set 9 _)
    have HD14 := Lib.hid (HD13.out.grown hgr (fun k hk => by injection hk with hk; exact .inl (by have := HGO.out; omega)))
    have HB14 := Lib.hid (HB13.out.grown hgr HB13.out.size (fun q hq => by injection hq with hq; have := HGM.out; omega))
    have HR14 := Lib.hid (row_grown HR13.out hgr (by have := HGM.out; omega))
    have HOE14 := Lib.hid (ownE_grown HOE13.out hgr (fun i e => by injection e with e; have := HS10.out; omega))
    have HOB14 := Lib.hid (Own.kept HOB13.out hgr (by cases hv : (Value.slice A2 m.length n2).ownBlock with | none => exact .inl rfl | some i => exact .inr fun e => by injection e with e; have := (HOB13.out.block_ge hv).1; have := HS11.out; omega))
    clear hW hgr HRO13 HD13 HB13 HR13 HOE13 HOB13 m9 f9
    obtain ⟨F, hF⟩ : ∃ F, rdEnd b a10 e10 = F := ⟨_, rfl⟩
    rw [hF] at HEQ
    refine (End_any HD14.out).mono ?_
    rw [hF]
    rintro r w15 ⟨rfl, _, hgr⟩
    have HRO15 := Lib.hid (row_grown HRO14.out hgr (by have := HGO.out; omega))
    have HB15 := Lib.hid (HB14.out.grown hgr HB14.out.size (fun q hq => by injection hq with hq; have := HG.out; omega))
    have HR15 := Lib.hid (row_grown HR14.out hgr (by have := HG.out; omega))
    have HOE15 := Lib.hid (ownE_grown HOE14.out hgr (fun i e => by injection e with e; have := HS10.out; have := HGO.out; omega))
    have HOB15 := Lib.hid (Own.kept HOB14.out hgr (by cases hv : (Value.slice A2 m.length n2).ownBlock with | none => exact .inl rfl | some i => exact .inr fun e => by injection e with e; have := (HOB14.out.block_ge hv).1; have := HS11.out; have := HGO.out; omega))
    clear hgr hF HRO14 HD14 HB14 HR14 HOE14 HOB14
    obtain ⟨M, hM⟩ : ∃ M : Ms, (⟨(z1 : Int), (z2 : Int), (z3 : Int), (z4 : Int), (z5 : Int), (z6 : Int), (z7 : Int), ob, l, m⟩ : Ms) = M := ⟨_, rfl⟩
    rw [hM] at HEQ
    have HMC := Lib.hid (show hcs (z1 : Int) (z2 : Int) (z3 : Int) (z4 : Int) (z5 : Int) (z6 : Int) (z7 : Int) ob (.slice A1 l.length n1) (.slice A2 m.length n2) = M.cs (.slice A1 l.length n1) (.slice A2 m.length n2) by rw [← hM]; rfl)
    have HMX := Lib.hid (show 0 ≤ M.ix by rw [← hM]; simp)
    have HMA := Lib.hid (show M.es = l ∧ M.body = m by rw [← hM]; exact ⟨rfl, rfl⟩)
    obtain ⟨cs, hcs'⟩ : ∃ cs, hcs (z1 : Int) (z2 : Int) (z3 : Int) (z4 : Int) (z5 : Int) (z6 : Int) (z7 : Int) ob (.slice A1 l.length n1) (.slice A2 m.length n2) = cs := ⟨_, rfl⟩
    have HCL := Lib.hid (show cs.length = 10 by rw [← hcs']; rfl)
    have HC1 := Lib.hid (show ∀ u ∈ cs, u.oneCell' = true by rw [← hcs']; exact hcs_one _ _ _ _ _ _ _ _ _ _ _ _ _ _)
    have HLD := Lib.hid (fun (y : World) (h : Row y gm cs 52) => show (loadVar 52 ⟨gm, 0, none⟩).run Try.prog y = .ok (.agg cs.toArray) y from by rw [← hcs'] at h ⊢; exact l_hcs h)
    rw [hcs'] at HRO15 HMC
    clear hM hcs'
    by_cases hE0 : F = 0
    · have hE1 : ((F : Int) != 0) = false := by subst hE0; rfl
      have HE0 := Lib.hid hE0
      clear hE0
      have HCK := Lib.hid (Check_any (w := w15) (B := w15.heap.size) (ve := .slice A1 l.length n1) (vb := .slice A2 m.length n2) (m := M) ⟨by rw [HMA.out.1]; exact HOE15.out.tab, by rw [HMA.out.2]; exact HOB15.out.bs⟩ HMX.out (Nat.le_refl _))
      rw [← HMC.out] at HCK
      have HL1 := Lib.hid (HLD.out w15 HRO15.out)
      go_wp2_with (first | (refine QB.wpList_ld 52 rfl rfl HL1.out (by kernel_rfl) ?_; clear HL1) | fail)
      refine HCK.out.mono ?_
      rintro r w16 ⟨rfl, hb16⟩
      have HBL := Lib.hid (nextB HB15.out (Nat.le_refl _) hb16)
      have HRL := Lib.hid (HR15.out.below hb16 HR15.out.lt)
      have HL2 := Lib.hid (HLD.out w16 (HRO15.out.below hb16 HRO15.out.lt))
      have HOE16 := Lib.hid (ownE_below HOE15.out hb16)
      have HOB16 := Lib.hid (HOB15.out.below hb16 (Nat.le_refl _))
      clear hb16 HCK HR15 HB15 HRO15 HLD HOE15 HOB15
      by_cases hV : checkMZ M = 0
      · rw [hV]
        rw [if_pos ⟨HE0.out, hV⟩] at HEQ
        clear hV
        go_wp2_with (first
          | (refine QB.wpList_ld 52 rfl rfl HL2.out rfl ?_; clear HL2)
          | (refine wpList_storeRow rfl 52 _ _ rfl rfl (cs := cs) rfl HRL.out (by kernel_rfl) HCL.out rfl HC1.out ?_
             refine QB.name fun V2 hV2 => ?_
             have hgr : w16.grownBy V2 (some w.heap.size) := hV2 ▸ only_setRow _
             have R2 := Lib.hid (show Row V2 w.heap.size cs 52 from hV2 ▸ Row.setRow HRL.out _)
             have HBV := Lib.hid (show Below w.heap.size w V2 from hV2 ▸ below_setRow HBL.out (Nat.le_refl _) _)
             have HOE17 := Lib.hid (ownE_grown HOE16.out hgr (fun i e => by injection e with e; have := HS10.out; have := HGM.out; omega))
             have HOB17 := Lib.hid (Own.kept HOB16.out hgr (by cases hv : (Value.slice A2 m.length n2).ownBlock with | none => exact .inl rfl | some i => exact .inr fun e => by injection e with e; have := (HOB16.out.block_ge hv).1; have := HS11.out; have := HGM.out; omega))
             clear hV2 hgr)
          | fail)
        refine bodyPost_ret (results_ct (cs := cs) rfl rfl R2.out Try.underlying52 rfl (by kernel_rfl) HCL.out) rfl ?_
        refine ⟨fun o ho => ?_, fun ho => absurd (HEQ.out.symm.trans ho) (by simp), HBV.out⟩
        have ho2 := Option.some.inj (HEQ.out.symm.trans ho)
        subst ho2
        refine ⟨.slice A1 l.length n1, .slice A2 m.length n2, by rw [HMC.out]; rfl, ?_, ?_⟩
        · rw [HMA.out.1]
          exact ⟨HOE17.out.1, own_less HOE17.out.2 (by have := HS10.out; have := HGM.out; omega)⟩
        · rw [HMA.out.2]
          exact HOB17.out.less (by have := HS11.out; have := HGM.out; omega)
      · rw [if_neg (fun h => hV h.2)] at HEQ
        have hV1 : (checkMZ M != 0) = true := by simpa using hV
        clear hV HL2
        have HB0 := Lib.hid (build_msg0 w16)
        go_wp2_with (first
          | (refine wpList_bp rfl 52 _ rfl (ps := #[]) (by kernel_rfl) HB0.out ?_; clear HB0)
          | (refine wpList_storeRow rfl 52 _ _ rfl rfl (cs := zcs) rfl HRL.out (by kernel_rfl) rfl rfl zcs_one ?_
             refine QB.name fun V2 hV2 => ?_
             have R2 := Lib.hid (show Row V2 w.heap.size zcs 52 from hV2 ▸ Row.setRow HRL.out _)
             have HBV := Lib.hid (show Below w.heap.size w V2 from hV2 ▸ below_setRow HBL.out (Nat.le_refl _) _)
             clear hV2)
          | fail)
        refine bodyPost_ret (results_ct (cs := zcs) rfl rfl R2.out Try.underlying52 rfl (by kernel_rfl) rfl) rfl ?_
        exact ⟨fun o ho => absurd (HEQ.out.symm.trans ho) (by simp), fun _ => rfl, HBV.out⟩
    · have hE1 : ((F : Int) != 0) = true := by rw [bne_iff_ne]; omega
      have HBL := Lib.hid HB15.out
      have HRL := Lib.hid HR15.out
      rw [if_neg (fun h => hE0 h.1)] at HEQ
      clear hE0 HLD
      have HB0 := Lib.hid (build_msg0 w15)
      go_wp2_with (first
        | (refine wpList_bp rfl 52 _ rfl (ps := #[]) (by kernel_rfl) HB0.out ?_; clear HB0)
        | (refine wpList_storeRow rfl 52 _ _ rfl rfl (cs := zcs) rfl HRL.out (by kernel_rfl) rfl rfl zcs_one ?_
           refine QB.name fun V2 hV2 => ?_
           have R2 := Lib.hid (show Row V2 w.heap.size zcs 52 from hV2 ▸ Row.setRow HRL.out _)
           have HBV := Lib.hid (show Below w.heap.size w V2 from hV2 ▸ below_setRow HBL.out (Nat.le_refl _) _)
           clear hV2)
        | fail)
      refine bodyPost_ret (results_ct (cs := zcs) rfl rfl R2.out Try.underlying52 rfl (by kernel_rfl) rfl) rfl ?_
      exact ⟨fun o ho => absurd (HEQ.out.symm.trans ho) (by simp), fun _ => rfl, HBV.out⟩
end Go.Proofs.Ytedmogacklbcmaa.Wir
namespace Go.Proofs.Ytedmogacklbcmaa.Wir
open Go.RowKit Cfg
section
variable {w : World}
/-- A struct equals itself if its parts do. -/
theorem eqIn_self (d : Nat) {t : TypeId} {fs : Array Field} {n : Nat} (hu : Try.prog.underlying t = some (.struct fs)) (hst : Try.prog.stoodInHeld t = false) (xs : List Value) (hl : fs.toList.length = n)
    (h : ∀ (j : Nat) (f : Field), fs.toList[j]? = some f → f.name ≠ "_" ∧ ∃ u, (part f.type xs.toArray f.offset).run Try.prog w = .ok u w ∧ (Op.equalIn d f.type u u).run Try.prog w = .ok true w) :
    (Op.equalIn (d + 1) t (.agg xs.toArray) (.agg xs.toArray)).run Try.prog w = .ok true w := by
  have hp : (program : Sem Program).run Try.prog w = .ok Try.prog w := rfl
  obtain ⟨l, hl'⟩ : ∃ l, fs.toList = l := ⟨_, rfl⟩
  have hfs : fs = l.toArray := by rw [← hl']
  subst hfs
  unfold Op.equalIn
  simp only [Sem.run_bind, run_underlying hu w, Result.andThen_ok, hp, hst, Bool.false_eq_true, if_false, List.forIn_toArray]
  rw [for_fields (Op.equalIn d) _ _ w _ (List.replicate n true) (by simpa using hl) (fun j f b hf hb => by
    rw [List.getElem?_replicate] at hb
    split at hb
    · injection hb with hb
      subst hb
      obtain ⟨h1, u, h2, h3⟩ := h j f hf
      exact ⟨h1, u, u, h2, h2, h3⟩
    · cases hb)]
  have hall : (List.replicate n true).all id = true := by simp
  rw [hall]
  simp
set_option maxRecDepth 100000 in
theorem eqIn_op (d : Nat) (r : Opn) (hr : r.ky.length = 32) : (Op.equalIn (d + 1 + 1 + 1) 30 (.agg r.cs.toArray) (.agg r.cs.toArray)).run Try.prog w = .ok true w := by
  have p0 : (part 3 r.cs.toArray 0).run Try.prog w = .ok (.int .i64 r.kind) w := part_one w Try.underlying3 rfl rfl
  have p1 : (part 26 r.cs.toArray 1).run Try.prog w = .ok (.int .u64 r.ref) w := part_one w Try.underlying26 rfl rfl
  have p2 : (part 3 r.cs.toArray 2).run Try.prog w = .ok (.int .i64 r.id) w := part_one w Try.underlying3 rfl rfl
  have p3 : (part 27 r.cs.toArray 3).run Try.prog w = .ok (.agg (r.ky.map bv).toArray) w := by
    rw [part_arr w Try.underlying27 rfl (show (Try.prog.info? 27).map (·.size) = some 32 by kernel_rfl)]
    congr 3
    show (r.ky.map bv ++ _).take 32 = _
    rw [List.take_left' (by rw [List.length_map, hr])]
  have p4 : (part 28 r.cs.toArray 35).run Try.prog w = .ok (.int .u32 r.addr) w := part_one w Try.underlying28 rfl (by
    show (r.ky.map bv ++ [Value.int .u32 r.addr, Value.int .i64 r.bits])[32]? = _
    rw [List.getElem?_append_right (by rw [List.length_map, hr]; omega), List.length_map, hr]; rfl)
  have p5 : (part 3 r.cs.toArray 36).run Try.prog w = .ok (.int .i64 r.bits) w := part_one w Try.underlying3 rfl (by
    show (r.ky.map bv ++ [Value.int .u32 r.addr, Value.int .i64 r.bits])[33]? = _
    rw [List.getElem?_append_right (by rw [List.length_map, hr]; omega), List.length_map, hr]; rfl)
  refine eqIn_self (n := 6) (d + 1 + 1) Try.underlying30 (by kernel_rfl) r.cs rfl fun j f hf => ?_
  match j, hf with
  | 0, hf => cases hf; exact ⟨by decide, _, p0, by rw [eqIn_int (d + 1) Try.underlying3]; simp⟩
  | 1, hf => cases hf; exact ⟨by decide, _, p1, by rw [eqIn_int (d + 1) Try.underlying26]; simp⟩
  | 2, hf => cases hf; exact ⟨by decide, _, p2, by rw [eqIn_int (d + 1) Try.underlying3]; simp⟩
  | 3, hf => cases hf; exact ⟨by decide, _, p3, by rw [eqIn_key d _ _ hr hr w]; simp⟩
  | 4, hf => cases hf; exact ⟨by decide, _, p4, by rw [eqIn_int (d + 1) Try.underlying28]; simp⟩
  | 5, hf => cases hf; exact ⟨by decide, _, p5, by rw [eqIn_int (d + 1) Try.underlying3]; simp⟩
  | n + 6, hf => simp at hf
set_option maxRecDepth 100000 in
theorem eqIn_sess (d : Nat) (i p : Int) (s : List UInt8) (hs : s.length = 32) : (Op.equalIn (d + 1 + 1 + 1) 47 (.agg (.int .u64 i :: .int .i64 p :: s.map bv).toArray) (.agg (.int .u64 i :: .int .i64 p :: s.map bv).toArray)).run Try.prog w = .ok true w := by
  have p0 : (part 26 (Value.int .u64 i :: .int .i64 p :: s.map bv).toArray 0).run Try.prog w = .ok (.int .u64 i) w := part_one w Try.underlying26 rfl rfl
  have p1 : (part 3 (Value.int .u64 i :: .int .i64 p :: s.map bv).toArray 1).run Try.prog w = .ok (.int .i64 p) w := part_one w Try.underlying3 rfl rfl
  have p2 : (part 27 (Value.int .u64 i :: .int .i64 p :: s.map bv).toArray 2).run Try.prog w = .ok (.agg (s.map bv).toArray) w := by
    rw [part_arr w Try.underlying27 rfl (show (Try.prog.info? 27).map (·.size) = some 32 by kernel_rfl)]
    congr 3
    show (s.map bv).take 32 = _
    rw [List.take_of_length_le (by rw [List.length_map, hs]; omega)]
  refine eqIn_self (n := 3) (d + 1 + 1) Try.underlying47 (by kernel_rfl) _ rfl fun j f hf => ?_
  match j, hf with
  | 0, hf => cases hf; exact ⟨by decide, _, p0, by rw [eqIn_int (d + 1) Try.underlying26]; simp⟩
  | 1, hf => cases hf; exact ⟨by decide, _, p1, by rw [eqIn_int (d + 1) Try.underlying3]; simp⟩
  | 2, hf => cases hf; exact ⟨by decide, _, p2, by rw [eqIn_key d _ _ hs hs w]; simp⟩
  | n + 3, hf => simp at hf
set_option maxRecDepth 100000 in
theorem eq_ent (e : En) (hk : e.K) : (Op.equal 49 e.val e.val).run Try.prog w = .ok true w := by
  suffices hd : ∀ d, (Op.equalIn (d + 1 + 1 + 1 + 1) 49 (.agg e.cs.toArray) (.agg e.cs.toArray)).run Try.prog w = .ok true w from hd 9996
  intro d
  have p0 : (part 3 e.cs.toArray 0).run Try.prog w = .ok (.int .i64 e.kind) w := part_one w Try.underlying3 rfl rfl
  have p1 : (part 28 e.cs.toArray 1).run Try.prog w = .ok (.int .u32 e.ep) w := part_one w Try.underlying28 rfl rfl
  have p2 : (part 26 e.cs.toArray 2).run Try.prog w = .ok (.int .u64 e.ix) w := part_one w Try.underlying26 rfl rfl
  have p3 : (part 30 e.cs.toArray 3).run Try.prog w = .ok (.agg e.op.cs.toArray) w := by
    rw [part_arr w Try.underlying30 rfl (show (Try.prog.info? 30).map (·.size) = some 37 by kernel_rfl)]
    congr 3
    show (e.op.cs ++ _).take 37 = _
    rw [List.take_left' (Opn.len hk.1)]
  have p4 : (part 47 e.cs.toArray 40).run Try.prog w = .ok (.agg (.int .u64 e.sid :: .int .i64 e.peer :: e.sec.map bv).toArray) w := by
    rw [part_arr w Try.underlying47 rfl (show (Try.prog.info? 47).map (·.size) = some 34 by kernel_rfl)]
    congr 3
    show ((e.op.cs ++ (Value.int .u64 e.sid :: .int .i64 e.peer :: e.sec.map bv)).drop 37).take 34 = _
    rw [List.drop_left' (Opn.len hk.1), List.take_of_length_le (by simp [hk.2])]
  refine eqIn_self (n := 5) (d + 1 + 1 + 1) Try.underlying49 (by kernel_rfl) e.cs rfl fun j f hf => ?_
  match j, hf with
  | 0, hf => cases hf; exact ⟨by decide, _, p0, by rw [eqIn_int (d + 1 + 1) Try.underlying3]; simp⟩
  | 1, hf => cases hf; exact ⟨by decide, _, p1, by rw [eqIn_int (d + 1 + 1) Try.underlying28]; simp⟩
  | 2, hf => cases hf; exact ⟨by decide, _, p2, by rw [eqIn_int (d + 1 + 1) Try.underlying26]; simp⟩
  | 3, hf => cases hf; exact ⟨by decide, _, p3, eqIn_op d e.op hk.1⟩
  | 4, hf => cases hf; exact ⟨by decide, _, p4, eqIn_sess d e.sid e.peer e.sec hk.2⟩
  | n + 5, hf => simp at hf
set_option maxRecDepth 100000 in
theorem g_ent : Try.prog.eqGuardType Try.prog.depth 49 = false := by kernel_rfl
end
theorem str_guard (op : BinOp) (hop : op = .eql ∨ op = .neq) (x y : Operand) (l m : List UInt8) (w : World) : (eqGuard op 9 x y (strOf l) (strOf m)).run Try.prog w = .ok () w := by
  unfold strOf
  rcases hop with rfl | rfl <;> simp [eqGuard]
theorem str_neq (l : List UInt8) (w : World) : (binOp .neq 9 (strOf l) (strOf l)).run Try.prog w = .ok (.bool false) w := by
  unfold strOf binOp Op.stringOp
  simp [Sem.run_pure]
theorem str_eql (l : List UInt8) (w : World) : (binOp .eql 9 (strOf l) (strOf l)).run Try.prog w = .ok (.bool true) w := by
  unfold strOf binOp Op.stringOp
  simp [Sem.run_pure]
set_option maxRecDepth 100000 in
set_option maxHeartbeats 2000000 in
theorem KEnts_any {w : World} {B : Nat} {v1 v2 : Value} {l : List En} (h1 : ETab w B v1 l) (h2 : ETab w B v2 l) (hn : l.length ≤ 1000) (hB : B ≤ w.heap.size) : Calls Try.prog 34 #[v1, v2] w fun e w' => e = .returned (.bool true) ∧ Below w.heap.size w w' := by
  obtain ⟨A1, n1, rfl, _⟩ := h1.2.shape
  obtain ⟨A2, n2, rfl, _⟩ := h2.2.shape
  have HT1 := Lib.hid h1
  have HT2 := Lib.hid h2
  have HN := Lib.hid hn
  have HBw := Lib.hid hB
  clear h1 h2 hn hB
  go_enter Try.func34, Try.ntmps34
  go_wp2
  go_loopw [5] (fun iv wr => ∃ i : Nat, i ≤ l.length ∧ iv = .int .i64 (i : Int) ∧ Hid (Below w.heap.size w wr)) (fun iv _ => l.length - (intOf iv).toNat)
  case atStart => exact ⟨0, Nat.zero_le _, rfl, Lib.hid (Below.refl _ _)⟩
  case round =>
    obtain ⟨i, hi, rfl, HB⟩ := hrel
    have hi2 : (i : Int) ≤ 1000 := by have := HN.out; omega
    by_cases hlt : i < l.length
    · have hlt' : (i : Int) < (l.length : Int) := by omega
      obtain ⟨x, hx⟩ : ∃ x, l[i]? = some x := ⟨_, List.getElem?_eq_getElem hlt⟩
      have HX := Lib.hid hx
      have Hkx := Lib.hid (HT1.out.1 x (List.mem_of_getElem? hx))
      have FX0 := Lib.hid (fun w' (h : Below wr.heap.size wr w') => ETab.at (HT1.out.below ((HB.out.trans (h.mono HB.out.size)).mono HBw.out)) HX.out)
      have FY0 := Lib.hid (fun w' (h : Below wr.heap.size wr w') => ETab.at (HT2.out.below ((HB.out.trans (h.mono HB.out.size)).mono HBw.out)) HX.out)
      obtain ⟨b1, off1, e1, _, _, _⟩ := FX0.out wr (Below.refl _ _)
      obtain ⟨b2, off2, e2, _, _, _⟩ := FY0.out wr (Below.refl _ _)
      subst e1 e2
      have FX := Lib.hid (fun w' (h : Below wr.heap.size wr w') => by obtain ⟨_, _, e, _, _, hl⟩ := FX0.out w' h; cases e; exact hl)
      have FY := Lib.hid (fun w' (h : Below wr.heap.size wr w') => by obtain ⟨_, _, e, _, _, hl⟩ := FY0.out w' h; cases e; exact hl)
      have hgd := fun (p q : Operand) (W : World) => guard_of (t := 49) g_ent .neq p q x.cs.toArray x.cs.toArray W
      have hne := fun (W : World) => neq_of (eq_ent (w := W) x Hkx.out)
      replace hgd : ∀ (p q : Operand) (W : World), (eqGuard .neq 49 p q x.val x.val).run Try.prog W = .ok () W := hgd
      replace hne : ∀ W : World, (binOp .neq 49 x.val x.val).run Try.prog W = .ok (.bool false) W := hne
      clear FX0 FY0 hx
      go_wp2_with fail
      refine QB.region' mixed (by kernel_rfl) ?_
      refine QB.val' (v := ?_) (a' := ?_) (by kernel_rfl) (fun w' hw' => ?_) ?_ ?_
      rotate_left 2
      · go_simp <;> rfl
      · simp only [Act.put, List.setIfInBounds_toArray, List.set_cons_succ, List.set_cons_zero]; rfl
      refine QB.val' (v := ?_) (a' := ?_) (by kernel_rfl) (fun w' hw' => ?_) ?_ ?_
      rotate_left 2
      · go_simp <;> rfl
      · simp only [Act.put, List.setIfInBounds_toArray, List.set_cons_succ, List.set_cons_zero]; rfl
      refine QB.val' (v := ?_) (a' := ?_) (by kernel_rfl) (fun w' hw' => ?_) ?_ ?_
      rotate_left 2
      · go_simp <;> rfl
      · simp only [Act.put, List.setIfInBounds_toArray, List.set_cons_succ, List.set_cons_zero]; rfl
      refine QB.ld' (a' := ?_) (by kernel_rfl) 49 rfl rfl (fun w' hw' => FX.out w' hw') ?_ ?_
      rotate_left
      · simp only [Act.put, List.setIfInBounds_toArray, List.set_cons_succ, List.set_cons_zero]; rfl
      refine QB.val' (v := ?_) (a' := ?_) (by kernel_rfl) (fun w' hw' => ?_) ?_ ?_
      rotate_left 2
      · go_simp <;> rfl
      · simp only [Act.put, List.setIfInBounds_toArray, List.set_cons_succ, List.set_cons_zero]; rfl
      refine QB.val' (v := ?_) (a' := ?_) (by kernel_rfl) (fun w' hw' => ?_) ?_ ?_
      rotate_left 2
      · go_simp <;> rfl
      · simp only [Act.put, List.setIfInBounds_toArray, List.set_cons_succ, List.set_cons_zero]; rfl
      refine QB.val' (v := ?_) (a' := ?_) (by kernel_rfl) (fun w' hw' => ?_) ?_ ?_
      rotate_left 2
      · go_simp <;> rfl
      · simp only [Act.put, List.setIfInBounds_toArray, List.set_cons_succ, List.set_cons_zero]; rfl
      refine QB.ld' (a' := ?_) (by kernel_rfl) 49 rfl rfl (fun w' hw' => FY.out w' hw') ?_ ?_
      rotate_left
      · simp only [Act.put, List.setIfInBounds_toArray, List.set_cons_succ, List.set_cons_zero]; rfl
      refine QB.val' (v := ?_) (a' := ?_) (by kernel_rfl) (fun w' hw' => ?_) ?_ ?_
      rotate_left 2
      · go_simp <;> rfl
      · simp only [Act.put, List.setIfInBounds_toArray, List.set_cons_succ, List.set_cons_zero]; rfl
      refine QB.nil' fun w' hw' => ?_
      have HW := Lib.hid (HB.out.trans (hw'.mono HB.out.size))
      clear hw'
      go_wp2
      go_roundw
      case rel => exact ⟨i + 1, hlt, by simp, HW⟩
      case measure => simp [intOf]; omega
    · have hlt' : ¬ (i : Int) < (l.length : Int) := by omega
      go_wp2
      go_ret
      exact ⟨rfl, HB.out⟩
set_option maxRecDepth 100000 in
set_option maxHeartbeats 4000000 in
/-- Two messages of the same contents. -/
theorem KMsg_any {w : World} {B : Nat} {v1 v2 u1 u2 : Value} {m : Ms} (h1 : MAt w B v1 u1 m) (h2 : MAt w B v2 u2 m) (hn : m.es.length ≤ 1000) (hB : B ≤ w.heap.size) : Calls Try.prog 27 #[.agg (m.cs v1 u1).toArray, .agg (m.cs v2 u2).toArray] w fun e w' => e = .returned (.bool true) ∧ Below w.heap.size w w' := by
  obtain ⟨A1, n1, A2, n2, rfl, rfl, _, _⟩ := h1.shape
  obtain ⟨A3, n3, A4, n4, rfl, rfl, _, _⟩ := h2.shape
  obtain ⟨c1, hc1⟩ : ∃ c1, m.cs (.slice A1 m.es.length n1) (.slice A2 m.body.length n2) = c1 := ⟨_, rfl⟩
  obtain ⟨c2, hc2⟩ : ∃ c2, m.cs (.slice A3 m.es.length n3) (.slice A4 m.body.length n4) = c2 := ⟨_, rfl⟩
  obtain ⟨W1, hW1⟩ : ∃ W1, (w.alloc (.cells c1.toArray 52)).alloc (.cells c2.toArray 52) = W1 := ⟨_, rfl⟩
  have hb1 : Below w.heap.size w W1 := hW1 ▸ ((Below.refl _ w).alloc (Nat.le_refl _) _).alloc (by simp) _
  have hr0 : Row W1 w.heap.size c1 52 := hW1 ▸ (Row.new rfl rfl : Row (w.alloc (.cells c1.toArray 52)) w.heap.size c1 52).alloc _
  have hr1 : Row W1 (w.heap.size + 1) c2 52 := hW1 ▸ Row.new (by simp) rfl
  rw [← hc1] at hr0
  rw [← hc2] at hr1
  have p0 := hr0.cell (i := 0) rfl
  have q0 := hr1.cell (i := 0) rfl
  have p1 := hr0.cell (i := 1) rfl
  have q1 := hr1.cell (i := 1) rfl
  have p2 := hr0.cell (i := 2) rfl
  have q2 := hr1.cell (i := 2) rfl
  have p3 := hr0.cell (i := 3) rfl
  have q3 := hr1.cell (i := 3) rfl
  have p4 := hr0.cell (i := 4) rfl
  have q4 := hr1.cell (i := 4) rfl
  have p5 := hr0.cell (i := 5) rfl
  have q5 := hr1.cell (i := 5) rfl
  have p6 := hr0.cell (i := 6) rfl
  have q6 := hr1.cell (i := 6) rfl
  have p7 := hr0.cell (i := 7) rfl
  have q7 := hr1.cell (i := 7) rfl
  have p8 := hr0.cell (i := 8) rfl
  have q8 := hr1.cell (i := 8) rfl
  have HE := Lib.hid (KEnts_any (w := W1) (B := B) (h1.below (hb1.mono hB)).es (h2.below (hb1.mono hB)).es hn (Nat.le_trans hB hb1.size))
  have HB1 := Lib.hid hb1
  have HM1 := Lib.hid (h1.below (hb1.mono hB))
  have HM2 := Lib.hid (h2.below (hb1.mono hB))
  have HR0 := Lib.hid hr0
  have HR1 := Lib.hid hr1
  have HBw := Lib.hid hB
  rw [hc1, hc2]
  clear h1 h2 hB hb1 hr0 hr1 hc1 hc2 hn
  go_enter Try.func27, Try.ntmps27
  go_wp2_with fail
  clear hW1 p0 q0 p1 q1 p2 q2 p3 q3 p4 q4 p5 q5 p6 q6 p7 q7 p8 q8
  refine HE.out.mono ?_
  rintro r w2 ⟨rfl, hb2⟩
  have HB2 := Lib.hid (nextB HB1.out (Nat.le_refl _) hb2)
  have k0 := (HR0.out.below hb2 HR0.out.lt).cell (i := 9) rfl
  have k1 := (HR1.out.below hb2 HR1.out.lt).cell (i := 9) rfl
  have hr1 := run_str w2 (HM1.out.below (hb2.mono (Nat.le_trans HBw.out HB1.out.size))).body
  have hr2 := run_str w2 (HM2.out.below (hb2.mono (Nat.le_trans HBw.out HB1.out.size))).body
  have hsg := fun x y => str_guard .eql (.inl rfl) x y m.body m.body w2
  have hsn := str_eql m.body w2
  clear hb2
  go_wp2
  go_ret
  exact ⟨rfl, HB2.out⟩
end Go.Proofs.Ytedmogacklbcmaa.Wir
