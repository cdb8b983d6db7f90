/- The reference's quarter round, round and state, by the evaluator. -/
import Derived.Test.YtpllbnioncjhaaaSym
import Derived.Test.YtpllbnioncjhaaaChaRound
import Derived.Test.YtpllbnioncjhaaaChaUndo
import Derived.Test.YtpllbnioncjhaaaChaLives
namespace Go.Proofs.Ytpllbnioncjhaaa
open Go.RowKit
namespace ChaI
set_option maxRecDepth 100000
theorem oadd_u32 (x y : BitVec 32) : oadd .u32 (x.toNat : Int) (y.toNat : Int) = ((x + y).toNat : Int) := by
  simp only [oadd, IntKind.wrap, IntKind.bits, IntKind.signed, BitVec.toNat_add]
  simp
theorem oxor_u32 (x y : BitVec 32) : oxor .u32 (x.toNat : Int) (y.toNat : Int) = ((x ^^^ y).toNat : Int) := w_xor x y
theorem oor_u32 (x y : BitVec 32) : oor .u32 (x.toNat : Int) (y.toNat : Int) = ((x ||| y).toNat : Int) := w_or x y
theorem oshl_u32 (x : BitVec 32) (n : Nat) : oshl .u32 (x.toNat : Int) n = ((x <<< n).toNat : Int) := by
  rw [← w_shl x n]
  simp only [oshl, IntKind.wrap, IntKind.bits, IntKind.signed]
  simp [Int.natCast_pow]
theorem oshr_u32 (x : BitVec 32) (n : Nat) : oshr (x.toNat : Int) n = ((x >>> n).toNat : Int) := by
  rw [oshr_nat, BitVec.toNat_ushiftRight, Nat.shiftRight_eq_div_pow]
/-- A word turned left. -/
def turn (x : Int) (n m : Nat) : Int := oor .u32 (oshl .u32 x n) (oshr x m)
theorem turn_is (x : BitVec 32) (n m : Nat) : turn (x.toNat : Int) n m = ((Cha.rotl x n m).toNat : Int) := by
  unfold turn Cha.rotl
  rw [oshl_u32, oshr_u32, oor_u32]
structure QI where
  a : Int
  b : Int
  c : Int
  d : Int
def half (q : QI) (n1 m1 n2 m2 : Nat) : QI :=
  ⟨oadd .u32 q.a q.b, turn (oxor .u32 q.b (oadd .u32 q.c (turn (oxor .u32 q.d (oadd .u32 q.a q.b)) n1 m1))) n2 m2, oadd .u32 q.c (turn (oxor .u32 q.d (oadd .u32 q.a q.b)) n1 m1), turn (oxor .u32 q.d (oadd .u32 q.a q.b)) n1 m1⟩
def quarter (q : QI) : QI := half (half q 16 16 12 20) 8 24 7 25
def ofQ (q : Cha.Q) : QI := ⟨q.a.toNat, q.b.toNat, q.c.toNat, q.d.toNat⟩
theorem half_is (q : Cha.Q) (n1 m1 n2 m2 : Nat) : half (ofQ q) n1 m1 n2 m2 = ofQ (Cha.half q n1 m1 n2 m2) := by
  simp only [half, ofQ, Cha.half, oadd_u32, oxor_u32, turn_is]
theorem quarter_is (q : Cha.Q) : quarter (ofQ q) = ofQ (Cha.quarter q) := by
  unfold quarter Cha.quarter
  rw [half_is, half_is]
abbrev u4 (x : Int) : Value := .int .u32 x
abbrev u1 (x : Int) : Value := .int .u8 x
theorem RQuarter_ev (q : QI) : Ev.ans Try.prog 1000 64 #[u4 q.a, u4 q.b, u4 q.c, u4 q.d] [] = some (.tuple #[u4 (quarter q).a, u4 (quarter q).b, u4 (quarter q).c, u4 (quarter q).d]) := by kernel_rfl
def round (a0 a1 a2 a3 a4 a5 a6 a7 a8 a9 a10 a11 a12 a13 a14 a15 : Int) : List Int :=
  let q0 := quarter ⟨a0, a4, a8, a12⟩
  let q1 := quarter ⟨a1, a5, a9, a13⟩
  let q2 := quarter ⟨a2, a6, a10, a14⟩
  let q3 := quarter ⟨a3, a7, a11, a15⟩
  let q4 := quarter ⟨q0.a, q1.b, q2.c, q3.d⟩
  let q5 := quarter ⟨q1.a, q2.b, q3.c, q0.d⟩
  let q6 := quarter ⟨q2.a, q3.b, q0.c, q1.d⟩
  let q7 := quarter ⟨q3.a, q0.b, q1.c, q2.d⟩
  [q4.a, q5.a, q6.a, q7.a, q7.b, q4.b, q5.b, q6.b, q6.c, q7.c, q4.c, q5.c, q5.d, q6.d, q7.d, q4.d]
theorem RRound_ev (a0 a1 a2 a3 a4 a5 a6 a7 a8 a9 a10 a11 a12 a13 a14 a15 : Int) :
    Ev.ans Try.prog 1000 58 #[.agg #[u4 a0, u4 a1, u4 a2, u4 a3, u4 a4, u4 a5, u4 a6, u4 a7, u4 a8, u4 a9, u4 a10, u4 a11, u4 a12, u4 a13, u4 a14, u4 a15]] [] =
      some (.agg ((round a0 a1 a2 a3 a4 a5 a6 a7 a8 a9 a10 a11 a12 a13 a14 a15).map u4).toArray) := by kernel_rfl
theorem round_is (a0 a1 a2 a3 a4 a5 a6 a7 a8 a9 a10 a11 a12 a13 a14 a15 : BitVec 32) :
    round a0.toNat a1.toNat a2.toNat a3.toNat a4.toNat a5.toNat a6.toNat a7.toNat a8.toNat a9.toNat a10.toNat a11.toNat a12.toNat a13.toNat a14.toNat a15.toNat = (Cha.round [a0, a1, a2, a3, a4, a5, a6, a7, a8, a9, a10, a11, a12, a13, a14, a15]).map fun x => (x.toNat : Int) := by
  have e : ∀ a b c d : BitVec 32, quarter ⟨(a.toNat : Int), (b.toNat : Int), (c.toNat : Int), (d.toNat : Int)⟩ = ofQ (Cha.quarter ⟨a, b, c, d⟩) := fun a b c d => quarter_is ⟨a, b, c, d⟩
  unfold round
  simp only [e]
  obtain ⟨q0, hq0⟩ : ∃ q, Cha.quarter ⟨a0, a4, a8, a12⟩ = q := ⟨_, rfl⟩
  obtain ⟨q1, hq1⟩ : ∃ q, Cha.quarter ⟨a1, a5, a9, a13⟩ = q := ⟨_, rfl⟩
  obtain ⟨q2, hq2⟩ : ∃ q, Cha.quarter ⟨a2, a6, a10, a14⟩ = q := ⟨_, rfl⟩
  obtain ⟨q3, hq3⟩ : ∃ q, Cha.quarter ⟨a3, a7, a11, a15⟩ = q := ⟨_, rfl⟩
  rw [hq0, hq1, hq2, hq3]
  simp only [ofQ, e]
  obtain ⟨q4, hq4⟩ : ∃ q, Cha.quarter ⟨q0.a, q1.b, q2.c, q3.d⟩ = q := ⟨_, rfl⟩
  obtain ⟨q5, hq5⟩ : ∃ q, Cha.quarter ⟨q1.a, q2.b, q3.c, q0.d⟩ = q := ⟨_, rfl⟩
  obtain ⟨q6, hq6⟩ : ∃ q, Cha.quarter ⟨q2.a, q3.b, q0.c, q1.d⟩ = q := ⟨_, rfl⟩
  obtain ⟨q7, hq7⟩ : ∃ q, Cha.quarter ⟨q3.a, q0.b, q1.c, q2.d⟩ = q := ⟨_, rfl⟩
  rw [hq4, hq5, hq6, hq7]
  simp only [Cha.round, Cha.table, List.foldl_cons, List.foldl_nil, Cha.qr, Cha.at_, List.getD_cons_zero, List.getD_cons_succ, List.set_cons_zero, List.set_cons_succ, hq0, hq1, hq2, hq3, hq4, hq5, hq6, hq7, List.map_cons, List.map_nil, ofQ]
/-- A word of four bytes. -/
def word (l : List Int) (i : Nat) : Int :=
  oadd .u32 (oadd .u32 (oadd .u32 (IntKind.u32.wrap (l.getD i 0)) (oshl .u32 (IntKind.u32.wrap (l.getD (i + 1) 0)) 8)) (oshl .u32 (IntKind.u32.wrap (l.getD (i + 2) 0)) 16)) (oshl .u32 (IntKind.u32.wrap (l.getD (i + 3) 0)) 24)
def state (key : List Int) (c : Int) (nonce : List Int) : List Int :=
  [1634760805, 857760878, 2036477234, 1797285236, word key 0, word key 4, word key 8, word key 12, word key 16, word key 20, word key 24, word key 28, c, word nonce 0, word nonce 4, word nonce 8]
theorem RState_ev (c : Int) : ∀ (key nonce : List Int), key.length = 32 → nonce.length = 12 → Ev.ans Try.prog 1000 57 #[.agg (key.map u1).toArray, u4 c, .agg (nonce.map u1).toArray] [] = some (.agg ((state key c nonce).map u4).toArray)
  | [k0, k1, k2, k3, k4, k5, k6, k7, k8, k9, k10, k11, k12, k13, k14, k15, k16, k17, k18, k19, k20, k21, k22, k23, k24, k25, k26, k27, k28, k29, k30, k31], [n0, n1, n2, n3, n4, n5, n6, n7, n8, n9, n10, n11], _, _ => by kernel_rfl
theorem word_is (l : List UInt8) (i : Nat) : word (l.map fun u => (u.toNat : Int)) i = ((Cha.word l i).toNat : Int) := by
  have g : ∀ i, (l.map fun u => (u.toNat : Int)).getD i 0 = ((l.getD i 0).toNat : Int) := by
    intro i
    rw [List.getD_eq_getElem?_getD, List.getElem?_map, List.getD_eq_getElem?_getD]
    cases l[i]? <;> rfl
  have w : ∀ u : UInt8, IntKind.u32.wrap (u.toNat : Int) = ((wb u).toNat : Int) := by
    intro u
    rw [wrap_u32_lt _ (by have := u.toNat_lt; omega), w_byte]
  unfold word Cha.word
  rw [g, g, g, g, w, w, w, w, oshl_u32, oshl_u32, oshl_u32, oadd_u32, oadd_u32, oadd_u32, Cha.le4_add]
end ChaI
theorem flat_args {β : Ev.Pl} {l : List Value} (h : l.all Ev.flat = true) : Ev.VL β l l := .of_flat (List.all_eq_true.1 h)
theorem RQuarter_any (q : Cha.Q) (w : World) : Calls Try.prog 64 #[wv q.a, wv q.b, wv q.c, wv q.d] w fun e w1 => e = .returned (qv (Cha.quarter q)) ∧ Below w.heap.size w w1 := by
  have h := ChaI.RQuarter_ev (ChaI.ofQ q)
  rw [ChaI.quarter_is] at h
  exact Ev.calls_ans (l := []) Cha.mixed (by decide) (by simp) (by simp) (flat_args rfl) h rfl
theorem map_u4 (l : List (BitVec 32)) : (l.map fun x => (x.toNat : Int)).map ChaI.u4 = l.map wv := by rw [List.map_map]; rfl
theorem flat_words (s : List (BitVec 32)) : Ev.flat (arr32 s) = true := by
  unfold arr32
  simp only [Ev.flat, List.all_eq_true]
  intro v hv
  rw [List.mem_map] at hv
  obtain ⟨x, _, rfl⟩ := hv
  rfl
theorem flat_bytes (s : List UInt8) : Ev.flat (arr8 s) = true := by
  unfold arr8
  simp only [Ev.flat, List.all_eq_true]
  intro v hv
  rw [List.mem_map] at hv
  obtain ⟨x, _, rfl⟩ := hv
  rfl
theorem RRound_any (s : List (BitVec 32)) (hs : s.length = 16) (w : World) : Calls Try.prog 58 #[arr32 s] w fun e w1 => e = .returned (arr32 (Cha.round s)) ∧ Below w.heap.size w w1 := by
  obtain ⟨a0, a1, a2, a3, a4, a5, a6, a7, a8, a9, a10, a11, a12, a13, a14, a15, rfl⟩ := list16 s hs
  have h := ChaI.RRound_ev a0.toNat a1.toNat a2.toNat a3.toNat a4.toNat a5.toNat a6.toNat a7.toNat a8.toNat a9.toNat a10.toNat a11.toNat a12.toNat a13.toNat a14.toNat a15.toNat
  rw [ChaI.round_is, map_u4] at h
  exact Ev.calls_ans (l := []) Cha.mixed (by decide) (by simp) (by simp) (flat_args rfl) h (flat_words _)
theorem state_list (key nonce : List UInt8) (c : BitVec 32) : ChaI.state (key.map fun u => (u.toNat : Int)) (c.toNat : Int) (nonce.map fun u => (u.toNat : Int)) = (Cha.state key c nonce).map fun x => (x.toNat : Int) := by
  unfold ChaI.state
  simp only [ChaI.word_is]
  rfl
theorem map_u1 (l : List UInt8) : (l.map fun u => (u.toNat : Int)).map ChaI.u1 = l.map bv := by rw [List.map_map]; rfl
theorem RState_any (key nonce : List UInt8) (c : BitVec 32) (hk : key.length = 32) (hn : nonce.length = 12) (w : World) : Calls Try.prog 57 #[arr8 key, wv c, arr8 nonce] w fun e w1 => e = .returned (arr32 (Cha.state key c nonce)) ∧ Below w.heap.size w w1 := by
  have h := ChaI.RState_ev c.toNat (key.map fun u => (u.toNat : Int)) (nonce.map fun u => (u.toNat : Int)) (by simpa using hk) (by simpa using hn)
  rw [state_list, map_u4, map_u1, map_u1] at h
  refine Ev.calls_ans (l := []) Cha.mixed (by decide) (by simp) (by simp) (flat_args ?_) h (flat_words _)
  simp only [List.all_cons, List.all_nil, Bool.and_true]
  rw [flat_bytes key, flat_bytes nonce]
  rfl
end Go.Proofs.Ytpllbnioncjhaaa
