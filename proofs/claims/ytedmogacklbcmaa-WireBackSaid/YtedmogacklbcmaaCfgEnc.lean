/- config: configurations and operations as bytes, in plain terms. -/
import Derived.Test.YtedmogacklbcmaaCfgCheckOp
import Derived.Test.YtedmogacklbcmaaRdPure
import Derived.Test.YtedmogacklbcmaaCopyArr
namespace Go.Proofs.Ytedmogacklbcmaa.Cfg
open Go.RowKit
open RdP CpA
/-! ### lists that are read one by one -/
section
variable {α : Type}
/-- n of them, one after the other, from a place and an error on. -/
def rdList (f : Nat → Nat → α × Nat × Nat) : Nat → Nat → Nat → List α × Nat × Nat
  | 0, a, e => ([], a, e)
  | n + 1, a, e => match rdList f n a e with
    | (l, a1, e1) => match f a1 e1 with
      | (x, a2, e2) => (l ++ [x], a2, e2)
theorem rdList_succ {f : Nat → Nat → α × Nat × Nat} {n a e : Nat} {l : List α} {a1 e1 : Nat} {x : α} {a2 e2 : Nat} (h : rdList f n a e = (l, a1, e1)) (k : f a1 e1 = (x, a2, e2)) : rdList f (n + 1) a e = (l ++ [x], a2, e2) := by
  show (match rdList f n a e with | (l, a1, e1) => match f a1 e1 with | (x, a2, e2) => (l ++ [x], a2, e2)) = _
  rw [h]
  dsimp only
  rw [k]
theorem rdList_len {f : Nat → Nat → α × Nat × Nat} : ∀ n a e, (rdList f n a e).1.length = n
  | 0, _, _ => rfl
  | n + 1, a, e => by
    rw [rdList_succ (f := f) (n := n) rfl rfl, List.length_append, rdList_len n a e]
    rfl
theorem rdList_all {f : Nat → Nat → α × Nat × Nat} {P : α → Prop} (hf : ∀ a e, P (f a e).1) : ∀ n a e, ∀ x ∈ (rdList f n a e).1, P x
  | 0, _, _, x, hx => by simp [rdList] at hx
  | n + 1, a, e, x, hx => by
    rw [rdList_succ (f := f) (n := n) rfl rfl] at hx
    rcases List.mem_append.1 hx with h | h
    · exact rdList_all hf n a e x h
    · rw [List.mem_singleton.1 h]
      exact hf _ _
theorem rdList_zero {f : Nat → Nat → α × Nat × Nat} {b : List UInt8} {enc : α → List UInt8} (hf : ∀ a e x a', f a e = (x, a', 0) → e = 0 ∧ b.drop a = enc x ++ b.drop a') : ∀ n a e l a', rdList f n a e = (l, a', 0) → e = 0 ∧ b.drop a = l.flatMap enc ++ b.drop a'
  | 0, a, e, l, a', h => by
    simp only [rdList, Prod.mk.injEq] at h
    obtain ⟨rfl, rfl, rfl⟩ := h
    exact ⟨rfl, rfl⟩
  | n + 1, a, e, l, a', h => by
    obtain ⟨l1, a1, e1, h1⟩ : ∃ l1 a1 e1, rdList f n a e = (l1, a1, e1) := ⟨_, _, _, rfl⟩
    obtain ⟨x, a2, e2, h2⟩ : ∃ x a2 e2, f a1 e1 = (x, a2, e2) := ⟨_, _, _, rfl⟩
    rw [rdList_succ h1 h2] at h
    simp only [Prod.mk.injEq] at h
    obtain ⟨rfl, rfl, rfl⟩ := h
    obtain ⟨rfl, k2⟩ := hf _ _ _ _ h2
    obtain ⟨rfl, k1⟩ := rdList_zero hf n a e _ _ h1
    refine ⟨rfl, ?_⟩
    rw [k1, k2, List.flatMap_append]
    simp
theorem rdList_own {f : List UInt8 → Nat → Nat → α × Nat × Nat} {enc : α → List UInt8} {G : α → Prop} (hf : ∀ x, G x → ∀ p r, f (p ++ (enc x ++ r)) p.length 0 = (x, (p ++ enc x).length, 0)) (p : List UInt8) :
    ∀ (n : Nat) (l : List α) (r : List UInt8), l.length = n → (∀ x ∈ l, G x) → rdList (f (p ++ (l.flatMap enc ++ r))) l.length p.length 0 = (l, (p ++ l.flatMap enc).length, 0)
  | 0, l, r, hn, _ => by
    have : l = [] := List.eq_nil_of_length_eq_zero hn
    subst this
    simp [rdList]
  | n + 1, l, r, hn, hl => by
    obtain ⟨m, x, rfl⟩ : ∃ m x, l = m ++ [x] := ⟨l.dropLast, l.getLast (by intro h; rw [h] at hn; cases hn), (List.dropLast_concat_getLast _).symm⟩
    have hm : m.length = n := by simpa using hn
    have h1 := rdList_own hf p n m (enc x ++ r) hm (fun y hy => hl y (List.mem_append_left _ hy))
    have h2 := hf x (hl x (by simp)) (p ++ m.flatMap enc) r
    have e1 : p ++ ((m ++ [x]).flatMap enc ++ r) = p ++ (m.flatMap enc ++ (enc x ++ r)) := by simp
    have e2 : p ++ m.flatMap enc ++ (enc x ++ r) = p ++ (m.flatMap enc ++ (enc x ++ r)) := by simp
    rw [e2] at h2
    rw [e1, List.length_append, List.length_singleton, rdList_succ h1 h2]
    simp
end
/-! ### what is written -/
def bnat (b : Bool) : Nat := if b = true then 1 else 0
def Mb.enc (m : Mb) : List UInt8 := Oct.enc m.id.toNat ++ (m.ky ++ Oct.enc (bnat m.off))
def Rt.enc (r : Rt) : List UInt8 := Oct.enc r.addr.toNat ++ (Oct.enc r.bits.toNat ++ Oct.enc r.peer.toNat)
def cenc (c : Cf) : List UInt8 := Oct.enc c.ps.length ++ (c.ps.flatMap Mb.enc ++ (Oct.enc c.rs.length ++ c.rs.flatMap Rt.enc))
def Opn.enc (o : Opn) : List UInt8 := Oct.enc o.kind.toNat ++ (Oct.enc o.ref.toNat ++ (Oct.enc o.id.toNat ++ (o.ky ++ (Oct.enc o.addr.toNat ++ Oct.enc o.bits.toNat))))
/-! ### what is read -/
def rdMb (b : List UInt8) (a e : Nat) : Mb × Nat × Nat :=
  match rdUpto b a e 65536 with
  | (x, a1, e1) => match rdFixed b a1 e1 32 with
    | (k, a2, e2) => match rdUpto b a2 e2 1 with
      | (o, a3, e3) => (⟨(x : Int), padTo 32 k, decide (o = 1)⟩, a3, e3)
def rdRt (b : List UInt8) (a e : Nat) : Rt × Nat × Nat :=
  match rdUpto b a e 4294967295 with
  | (x, a1, e1) => match rdUpto b a1 e1 32 with
    | (y, a2, e2) => match rdUpto b a2 e2 65536 with
      | (z, a3, e3) => (⟨(x : Int), (y : Int), (z : Int)⟩, a3, e3)
theorem rdMb_eq {b : List UInt8} {a e x a1 e1 a2 e2 o a3 e3 : Nat} {k : List UInt8} (h1 : rdUpto b a e 65536 = (x, a1, e1)) (h2 : rdFixed b a1 e1 32 = (k, a2, e2)) (h3 : rdUpto b a2 e2 1 = (o, a3, e3)) :
    rdMb b a e = (⟨(x : Int), padTo 32 k, decide (o = 1)⟩, a3, e3) := by
  unfold rdMb
  rw [h1]
  dsimp only
  rw [h2]
  dsimp only
  rw [h3]
theorem rdRt_eq {b : List UInt8} {a e x a1 e1 y a2 e2 z a3 e3 : Nat} (h1 : rdUpto b a e 4294967295 = (x, a1, e1)) (h2 : rdUpto b a1 e1 32 = (y, a2, e2)) (h3 : rdUpto b a2 e2 65536 = (z, a3, e3)) :
    rdRt b a e = (⟨(x : Int), (y : Int), (z : Int)⟩, a3, e3) := by
  unfold rdRt
  rw [h1]
  dsimp only
  rw [h2]
  dsimp only
  rw [h3]
theorem fixed_len32 (b : List UInt8) (a e : Nat) : (rdFixed b a e 32).1.length ≤ 32 := fixed_len b a e 32
theorem rdMb_k32 (b : List UInt8) (a e : Nat) : (rdMb b a e).1.ky.length = 32 := by
  rw [rdMb_eq rfl rfl rfl]
  exact padTo_length (fixed_len32 b _ _)
theorem rdRt_addr (b : List UInt8) (a e : Nat) : 0 ≤ (rdRt b a e).1.addr ∧ (rdRt b a e).1.addr ≤ 4294967295 := by
  rw [rdRt_eq rfl rfl rfl]
  have := upto_le b a e 4294967295
  exact ⟨by simp, by show ((rdUpto b a e 4294967295).1 : Int) ≤ 4294967295; omega⟩
theorem off_nat {o : Nat} (h : o ≤ 1) : bnat (decide (o = 1)) = o := by
  rcases Nat.eq_zero_or_pos o with e | e
  · subst e; rfl
  · have : o = 1 := by omega
    subst this; rfl
theorem rdMb_zero {b : List UInt8} (a e : Nat) (m : Mb) (a' : Nat) (h : rdMb b a e = (m, a', 0)) : e = 0 ∧ b.drop a = m.enc ++ b.drop a' := by
  obtain ⟨x, a1, e1, h1⟩ : ∃ x a1 e1, rdUpto b a e 65536 = (x, a1, e1) := ⟨_, _, _, rfl⟩
  obtain ⟨k, a2, e2, h2⟩ : ∃ x a1' e1', rdFixed b a1 e1 32 = (x, a1', e1') := ⟨_, _, _, rfl⟩
  obtain ⟨o, a3, e3, h3⟩ : ∃ x a1 e1, rdUpto b a2 e2 1 = (x, a1, e1) := ⟨_, _, _, rfl⟩
  rw [rdMb_eq h1 h2 h3] at h
  simp only [Prod.mk.injEq] at h
  obtain ⟨rfl, rfl, rfl⟩ := h
  obtain ⟨rfl, k3, k4, _⟩ := upto_zero h3
  obtain ⟨rfl, k5, k6⟩ := fixed_zero h2
  obtain ⟨rfl, k7, _, _⟩ := upto_zero h1
  refine ⟨rfl, ?_⟩
  rw [k7, k5, k3]
  show _ = (Oct.enc ((x : Int)).toNat ++ (padTo 32 k ++ Oct.enc (bnat (decide (o = 1))))) ++ _
  rw [padTo_full (by omega), off_nat k4]
  simp
theorem rdRt_zero {b : List UInt8} (a e : Nat) (m : Rt) (a' : Nat) (h : rdRt b a e = (m, a', 0)) : e = 0 ∧ b.drop a = m.enc ++ b.drop a' := by
  obtain ⟨x, a1, e1, h1⟩ : ∃ x a1 e1, rdUpto b a e 4294967295 = (x, a1, e1) := ⟨_, _, _, rfl⟩
  obtain ⟨y, a2, e2, h2⟩ : ∃ x a1' e1', rdUpto b a1 e1 32 = (x, a1', e1') := ⟨_, _, _, rfl⟩
  obtain ⟨z, a3, e3, h3⟩ : ∃ x a1 e1, rdUpto b a2 e2 65536 = (x, a1, e1) := ⟨_, _, _, rfl⟩
  rw [rdRt_eq h1 h2 h3] at h
  simp only [Prod.mk.injEq] at h
  obtain ⟨rfl, rfl, rfl⟩ := h
  obtain ⟨rfl, k3, _, _⟩ := upto_zero h3
  obtain ⟨rfl, k5, _, _⟩ := upto_zero h2
  obtain ⟨rfl, k7, _, _⟩ := upto_zero h1
  refine ⟨rfl, ?_⟩
  rw [k7, k5, k3]
  show _ = (Oct.enc ((x : Int)).toNat ++ (Oct.enc ((y : Int)).toNat ++ Oct.enc ((z : Int)).toNat)) ++ _
  simp
/-- What can be written of a peer, a route. -/
def Mb.Fit (m : Mb) : Prop := isIDB m.id = true ∧ m.ky.length = 32
def Rt.Fit (r : Rt) : Prop := (0 ≤ r.addr ∧ r.addr ≤ 4294967295) ∧ (0 ≤ r.bits ∧ r.bits ≤ 32) ∧ isIDB r.peer = true
theorem isIDB_in {x : Int} (h : isIDB x = true) : 1 ≤ x ∧ x ≤ 65536 := by simpa [isIDB] using h
theorem mb_own (m : Mb) (h : m.Fit) (p r : List UInt8) : rdMb (p ++ (m.enc ++ r)) p.length 0 = (m, (p ++ m.enc).length, 0) := by
  have hid := isIDB_in h.1
  have h1 := upto_own m.id.toNat 65536 (by omega) (by omega) p (m.ky ++ (Oct.enc (bnat m.off) ++ r))
  have h2 := fixed_own m.ky 32 (by rw [h.2]; rfl) (by decide) (p ++ Oct.enc m.id.toNat) (Oct.enc (bnat m.off) ++ r)
  have hb : bnat m.off ≤ 1 := by cases m.off <;> decide
  have h3 := upto_own (bnat m.off) 1 (by omega) hb (p ++ Oct.enc m.id.toNat ++ m.ky) r
  have e1 : p ++ Oct.enc m.id.toNat ++ (m.ky ++ (Oct.enc (bnat m.off) ++ r)) = p ++ (m.enc ++ r) := by simp [Mb.enc]
  have e2 : p ++ Oct.enc m.id.toNat ++ m.ky ++ (Oct.enc (bnat m.off) ++ r) = p ++ (m.enc ++ r) := by simp [Mb.enc]
  have e3 : p ++ (Oct.enc m.id.toNat ++ (m.ky ++ (Oct.enc (bnat m.off) ++ r))) = p ++ (m.enc ++ r) := by simp [Mb.enc]
  rw [e3] at h1
  rw [e1] at h2
  rw [e2] at h3
  rw [rdMb_eq h1 h2 h3, padTo_full h.2]
  obtain ⟨id, ky, off⟩ := m
  have e4 : ((id.toNat : Nat) : Int) = id := by simp only at hid; omega
  have e5 : decide (bnat off = 1) = off := by cases off <;> rfl
  simp only [e4, e5, Mb.enc, List.append_assoc]
theorem rt_own (m : Rt) (h : m.Fit) (p r : List UInt8) : rdRt (p ++ (m.enc ++ r)) p.length 0 = (m, (p ++ m.enc).length, 0) := by
  obtain ⟨ha, hb, hp⟩ := h
  have hid := isIDB_in hp
  have h1 := upto_own m.addr.toNat 4294967295 (by omega) (by omega) p (Oct.enc m.bits.toNat ++ (Oct.enc m.peer.toNat ++ r))
  have h2 := upto_own m.bits.toNat 32 (by omega) (by omega) (p ++ Oct.enc m.addr.toNat) (Oct.enc m.peer.toNat ++ r)
  have h3 := upto_own m.peer.toNat 65536 (by omega) (by omega) (p ++ Oct.enc m.addr.toNat ++ Oct.enc m.bits.toNat) r
  have e1 : p ++ Oct.enc m.addr.toNat ++ (Oct.enc m.bits.toNat ++ (Oct.enc m.peer.toNat ++ r)) = p ++ (m.enc ++ r) := by simp [Rt.enc]
  have e2 : p ++ Oct.enc m.addr.toNat ++ Oct.enc m.bits.toNat ++ (Oct.enc m.peer.toNat ++ r) = p ++ (m.enc ++ r) := by simp [Rt.enc]
  have e3 : p ++ (Oct.enc m.addr.toNat ++ (Oct.enc m.bits.toNat ++ (Oct.enc m.peer.toNat ++ r))) = p ++ (m.enc ++ r) := by simp [Rt.enc]
  rw [e3] at h1
  rw [e1] at h2
  rw [e2] at h3
  rw [rdRt_eq h1 h2 h3]
  obtain ⟨x, y, z⟩ := m
  have e4 : ((x.toNat : Nat) : Int) = x := by simp only at ha; omega
  have e5 : ((y.toNat : Nat) : Int) = y := by simp only at hb; omega
  have e6 : ((z.toNat : Nat) : Int) = z := by simp only at hid; omega
  simp only [e4, e5, e6, Rt.enc, List.append_assoc]
/-! ### configurations -/
open Classical in
/-- What Read answers, if anything. -/
noncomputable def rdCfg (b : List UInt8) : Option Cf :=
  match rdUpto b 0 0 64 with
  | (n, a1, e1) => match rdList (rdMb b) n a1 e1 with
    | (ps, a2, e2) => match rdUpto b a2 e2 256 with
      | (m, a3, e3) => match rdList (rdRt b) m a3 e3 with
        | (rs, a4, e4) => if rdEnd b a4 e4 = 0 ∧ Val ⟨ps, rs⟩ then some ⟨ps, rs⟩ else none
theorem rdCfg_yes {b : List UInt8} {n a1 e1 a2 e2 m a3 e3 a4 e4 : Nat} {ps : List Mb} {rs : List Rt} (h1 : rdUpto b 0 0 64 = (n, a1, e1)) (h2 : rdList (rdMb b) n a1 e1 = (ps, a2, e2)) (h3 : rdUpto b a2 e2 256 = (m, a3, e3))
    (h4 : rdList (rdRt b) m a3 e3 = (rs, a4, e4)) (hE : rdEnd b a4 e4 = 0) (hV : Val ⟨ps, rs⟩) : rdCfg b = some ⟨ps, rs⟩ := by
  unfold rdCfg
  rw [h1]
  dsimp only
  rw [h2]
  dsimp only
  rw [h3]
  dsimp only
  rw [h4]
  exact if_pos ⟨hE, hV⟩
theorem rdCfg_no {b : List UInt8} {n a1 e1 a2 e2 m a3 e3 a4 e4 : Nat} {ps : List Mb} {rs : List Rt} (h1 : rdUpto b 0 0 64 = (n, a1, e1)) (h2 : rdList (rdMb b) n a1 e1 = (ps, a2, e2)) (h3 : rdUpto b a2 e2 256 = (m, a3, e3))
    (h4 : rdList (rdRt b) m a3 e3 = (rs, a4, e4)) (hn : ¬ (rdEnd b a4 e4 = 0 ∧ Val ⟨ps, rs⟩)) : rdCfg b = none := by
  unfold rdCfg
  rw [h1]
  dsimp only
  rw [h2]
  dsimp only
  rw [h3]
  dsimp only
  rw [h4]
  exact if_neg hn
theorem prefB_in {a b : Int} (h : prefB a b = true) : 0 ≤ b ∧ b ≤ 32 := by
  unfold prefB at h
  simp only [Bool.and_eq_true, decide_eq_true_eq] at h
  exact ⟨h.1.1, h.1.2⟩
theorem Val.fits {c : Cf} (h : Val c) (hk : K32 c.ps) (ha : ∀ r ∈ c.rs, 0 ≤ r.addr ∧ r.addr ≤ 4294967295) : (∀ m ∈ c.ps, m.Fit) ∧ (∀ r ∈ c.rs, r.Fit) := by
  obtain ⟨_, _, h3, _, h5, _⟩ := h
  refine ⟨fun m hm => ⟨h3 m hm, hk m hm⟩, fun r hr => ⟨ha r hr, prefB_in (h5 r hr).1, ?_⟩⟩
  obtain ⟨x, hx, he⟩ := has_iff.1 (h5 r hr).2
  have h6 := h3 x hx
  have he' : x.id = r.peer := (Prod.mk.inj he).1
  rwa [he'] at h6
/-- What is read is what was written. -/
theorem rdCfg_own (c : Cf) (h : Val c) (hk : K32 c.ps) (ha : ∀ r ∈ c.rs, 0 ≤ r.addr ∧ r.addr ≤ 4294967295) : rdCfg (cenc c) = some c := by
  obtain ⟨f1, f2⟩ := h.fits hk ha
  have n1 := h.1
  have n2 := h.2.1
  have h1 := upto_own c.ps.length 64 (by omega) n1 [] (c.ps.flatMap Mb.enc ++ (Oct.enc c.rs.length ++ c.rs.flatMap Rt.enc))
  have h2 := rdList_own (f := rdMb) mb_own (Oct.enc c.ps.length) _ c.ps (Oct.enc c.rs.length ++ c.rs.flatMap Rt.enc) rfl f1
  have h3 := upto_own c.rs.length 256 (by omega) n2 (Oct.enc c.ps.length ++ c.ps.flatMap Mb.enc) (c.rs.flatMap Rt.enc)
  have h4 := rdList_own (f := rdRt) rt_own (Oct.enc c.ps.length ++ c.ps.flatMap Mb.enc ++ Oct.enc c.rs.length) _ c.rs [] rfl f2
  have e3 : Oct.enc c.ps.length ++ c.ps.flatMap Mb.enc ++ (Oct.enc c.rs.length ++ c.rs.flatMap Rt.enc) = cenc c := by simp [cenc]
  have e4 : Oct.enc c.ps.length ++ c.ps.flatMap Mb.enc ++ Oct.enc c.rs.length ++ (c.rs.flatMap Rt.enc ++ []) = cenc c := by simp [cenc]
  rw [List.nil_append, List.nil_append] at h1
  rw [e3] at h3
  rw [e4] at h4
  have h2' : rdList (rdMb (cenc c)) c.ps.length (Oct.enc c.ps.length).length 0 = _ := h2
  refine rdCfg_yes h1 h2' h3 h4 ?_ h
  rw [show Oct.enc c.ps.length ++ c.ps.flatMap Mb.enc ++ Oct.enc c.rs.length ++ c.rs.flatMap Rt.enc = cenc c by simp [cenc]]
  exact end_own _
/-- Whatever is read is written as just these bytes. -/
theorem rdCfg_bytes {b : List UInt8} {c : Cf} (h : rdCfg b = some c) : cenc c = b ∧ Val c ∧ K32 c.ps ∧ ∀ r ∈ c.rs, 0 ≤ r.addr ∧ r.addr ≤ 4294967295 := by
  obtain ⟨n, a1, e1, h1⟩ : ∃ x a1 e1, rdUpto b 0 0 64 = (x, a1, e1) := ⟨_, _, _, rfl⟩
  obtain ⟨ps, a2, e2, h2⟩ : ∃ x a1' e1', rdList (rdMb b) n a1 e1 = (x, a1', e1') := ⟨_, _, _, rfl⟩
  obtain ⟨m, a3, e3, h3⟩ : ∃ x a1 e1, rdUpto b a2 e2 256 = (x, a1, e1) := ⟨_, _, _, rfl⟩
  obtain ⟨rs, a4, e4, h4⟩ : ∃ x a1' e1', rdList (rdRt b) m a3 e3 = (x, a1', e1') := ⟨_, _, _, rfl⟩
  by_cases hn : rdEnd b a4 e4 = 0 ∧ Val ⟨ps, rs⟩
  · rw [rdCfg_yes h1 h2 h3 h4 hn.1 hn.2] at h
    injection h with h
    subst h
    have l1 : ps.length = n := by have := rdList_len (f := rdMb b) n a1 e1; rwa [h2] at this
    have l2 : rs.length = m := by have := rdList_len (f := rdRt b) m a3 e3; rwa [h4] at this
    obtain ⟨q4, hd⟩ := end_zero hn.1
    subst q4
    obtain ⟨rfl, k4⟩ := rdList_zero rdRt_zero _ _ _ _ _ h4
    obtain ⟨rfl, k3, _, _⟩ := upto_zero h3
    obtain ⟨rfl, k2⟩ := rdList_zero rdMb_zero _ _ _ _ _ h2
    obtain ⟨_, k1, _, _⟩ := upto_zero h1
    refine ⟨?_, hn.2, fun x hx => ?_, fun r hr => ?_⟩
    · rw [List.drop_zero] at k1
      rw [k1, k2, k3, k4, hd, List.append_nil, ← l1, ← l2]
      rfl
    · have := rdList_all (f := rdMb b) (P := fun m => m.ky.length = 32) (rdMb_k32 b) n a1 0
      rw [h2] at this
      exact this x hx
    · have := rdList_all (f := rdRt b) (P := fun r => 0 ≤ r.addr ∧ r.addr ≤ 4294967295) (rdRt_addr b) m a3 0
      rw [h4] at this
      exact this r hr
  · rw [rdCfg_no h1 h2 h3 h4 hn] at h
    cases h
/-! ### operations -/
/-- What ReadOp answers, if anything. -/
def rdOpn (b : List UInt8) : Option Opn :=
  match rdUpto b 0 0 5 with
  | (k, a1, e1) => match rdNumber b a1 e1 with
    | (r, a2, e2) => match rdUpto b a2 e2 65536 with
      | (i, a3, e3) => match rdFixed b a3 e3 32 with
        | (y, a4, e4) => match rdUpto b a4 e4 4294967295 with
          | (x, a5, e5) => match rdUpto b a5 e5 32 with
            | (z, a6, e6) => if rdEnd b a6 e6 = 0 ∧ okO ⟨(k : Int), (r : Int), (i : Int), padTo 32 y, (x : Int), (z : Int)⟩ = true then some ⟨(k : Int), (r : Int), (i : Int), padTo 32 y, (x : Int), (z : Int)⟩ else none
theorem rdOpn_eq {b : List UInt8} {k a1 e1 r a2 e2 i a3 e3 a4 e4 x a5 e5 z a6 e6 : Nat} {y : List UInt8} (h1 : rdUpto b 0 0 5 = (k, a1, e1)) (h2 : rdNumber b a1 e1 = (r, a2, e2)) (h3 : rdUpto b a2 e2 65536 = (i, a3, e3)) (h4 : rdFixed b a3 e3 32 = (y, a4, e4))
    (h5 : rdUpto b a4 e4 4294967295 = (x, a5, e5)) (h6 : rdUpto b a5 e5 32 = (z, a6, e6)) : rdOpn b = if rdEnd b a6 e6 = 0 ∧ okO ⟨(k : Int), (r : Int), (i : Int), padTo 32 y, (x : Int), (z : Int)⟩ = true then some ⟨(k : Int), (r : Int), (i : Int), padTo 32 y, (x : Int), (z : Int)⟩ else none := by
  unfold rdOpn
  rw [h1]
  dsimp only
  rw [h2]
  dsimp only
  rw [h3]
  dsimp only
  rw [h4]
  dsimp only
  rw [h5]
  dsimp only
  rw [h6]
theorem okO_fit {o : Opn} (h : okO o = true) (ha : 0 ≤ o.addr ∧ o.addr ≤ 4294967295) : (1 ≤ o.kind ∧ o.kind ≤ 5) ∧ (0 ≤ o.id ∧ o.id ≤ 65536) ∧ (0 ≤ o.bits ∧ o.bits ≤ 32) := by
  unfold okO at h
  simp only [Bool.and_eq_true, Bool.or_eq_true, decide_eq_true_eq] at h
  obtain ⟨hk, hn, hi, hp⟩ := h
  refine ⟨by omega, ?_, prefB_in hp⟩
  rcases hi with h5 | hi
  · have : o.id = (named o).id := congrArg Opn.id hn
    rw [named, if_neg (by omega), if_neg (by omega), if_neg (by omega)] at this
    have e : o.id = 0 := this
    omega
  · have := isIDB_in hi
    omega
theorem rdOpn_own (o : Opn) (h : okO o = true) (hk : o.ky.length = 32) (ha : 0 ≤ o.addr ∧ o.addr ≤ 4294967295) (hr : 0 ≤ o.ref ∧ o.ref < 18446744073709551616) : rdOpn o.enc = some o := by
  obtain ⟨f1, f2, f3⟩ := okO_fit h ha
  obtain ⟨kind, ref, id, ky, addr, bits⟩ := o
  simp only at f1 f2 f3 hk ha hr
  obtain ⟨k', rfl⟩ : ∃ n : Nat, kind = (n : Int) := ⟨kind.toNat, by omega⟩
  obtain ⟨r', rfl⟩ : ∃ n : Nat, ref = (n : Int) := ⟨ref.toNat, by omega⟩
  obtain ⟨i', rfl⟩ : ∃ n : Nat, id = (n : Int) := ⟨id.toNat, by omega⟩
  obtain ⟨a', rfl⟩ : ∃ n : Nat, addr = (n : Int) := ⟨addr.toNat, by omega⟩
  obtain ⟨b', rfl⟩ : ∃ n : Nat, bits = (n : Int) := ⟨bits.toNat, by omega⟩
  have hE : (⟨(k' : Int), (r' : Int), (i' : Int), ky, (a' : Int), (b' : Int)⟩ : Opn).enc = Oct.enc k' ++ (Oct.enc r' ++ (Oct.enc i' ++ (ky ++ (Oct.enc a' ++ Oct.enc b')))) := by simp [Opn.enc]
  rw [hE]
  have h1 := upto_own k' 5 (by omega) (by omega) [] (Oct.enc r' ++ (Oct.enc i' ++ (ky ++ (Oct.enc a' ++ Oct.enc b'))))
  have h2 := num_own r' (by omega) (Oct.enc k') (Oct.enc i' ++ (ky ++ (Oct.enc a' ++ Oct.enc b')))
  have h3 := upto_own i' 65536 (by omega) (by omega) (Oct.enc k' ++ Oct.enc r') (ky ++ (Oct.enc a' ++ Oct.enc b'))
  have h4 := fixed_own ky 32 (by rw [hk]; rfl) (by decide) (Oct.enc k' ++ Oct.enc r' ++ Oct.enc i') (Oct.enc a' ++ Oct.enc b')
  have h5 := upto_own a' 4294967295 (by omega) (by omega) (Oct.enc k' ++ Oct.enc r' ++ Oct.enc i' ++ ky) (Oct.enc b')
  have h6 := upto_own b' 32 (by omega) (by omega) (Oct.enc k' ++ Oct.enc r' ++ Oct.enc i' ++ ky ++ Oct.enc a') []
  simp only [List.nil_append, List.append_nil, List.append_assoc, List.length_nil] at h1 h2 h3 h4 h5 h6
  rw [rdOpn_eq h1 h2 h3 h4 h5 h6, padTo_full hk]
  exact if_pos ⟨end_own _, h⟩
theorem rdOpn_bytes {b : List UInt8} {o : Opn} (h : rdOpn b = some o) : o.enc = b ∧ okO o = true ∧ o.ky.length = 32 ∧ (0 ≤ o.addr ∧ o.addr ≤ 4294967295) ∧ (0 ≤ o.ref ∧ o.ref < 18446744073709551616) := by
  obtain ⟨k, a1, e1, h1⟩ : ∃ x a1 e1, rdUpto b 0 0 5 = (x, a1, e1) := ⟨_, _, _, rfl⟩
  obtain ⟨r, a2, e2, h2⟩ : ∃ x a1' e1', rdNumber b a1 e1 = (x, a1', e1') := ⟨_, _, _, rfl⟩
  obtain ⟨i, a3, e3, h3⟩ : ∃ x a1 e1, rdUpto b a2 e2 65536 = (x, a1, e1) := ⟨_, _, _, rfl⟩
  obtain ⟨y, a4, e4, h4⟩ : ∃ x a1' e1', rdFixed b a3 e3 32 = (x, a1', e1') := ⟨_, _, _, rfl⟩
  obtain ⟨x, a5, e5, h5⟩ : ∃ x a1 e1, rdUpto b a4 e4 4294967295 = (x, a1, e1) := ⟨_, _, _, rfl⟩
  obtain ⟨z, a6, e6, h6⟩ : ∃ x a1 e1, rdUpto b a5 e5 32 = (x, a1, e1) := ⟨_, _, _, rfl⟩
  rw [rdOpn_eq h1 h2 h3 h4 h5 h6] at h
  split at h
  · rename_i hn
    injection h with h
    subst h
    obtain ⟨q6, hd⟩ := end_zero hn.1
    subst q6
    obtain ⟨rfl, k6, _, _⟩ := upto_zero h6
    obtain ⟨rfl, k5, m5, _⟩ := upto_zero h5
    obtain ⟨rfl, k4, m4⟩ := fixed_zero h4
    obtain ⟨rfl, k3, _, _⟩ := upto_zero h3
    obtain ⟨rfl, k2, m2⟩ := num_zero h2
    obtain ⟨_, k1, _, _⟩ := upto_zero h1
    have hy : y.length = 32 := by omega
    rw [padTo_full hy] at hn ⊢
    refine ⟨?_, hn.2, hy, ⟨by simp, by simp only; omega⟩, ⟨by simp, by simp only; omega⟩⟩
    rw [List.drop_zero] at k1
    rw [k1, k2, k3, k4, k5, k6, hd, List.append_nil]
    simp [Opn.enc]
  · cases h
end Go.Proofs.Ytedmogacklbcmaa.Cfg
