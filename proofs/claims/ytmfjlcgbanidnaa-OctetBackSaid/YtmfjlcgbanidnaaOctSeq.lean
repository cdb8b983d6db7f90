/- What is read of numbers and blocks that were written one after the other, and of the same with fewer bytes. -/
import Derived.Test.YtmfjlcgbanidnaaOctRest
namespace Go.Proofs.Ytmfjlcgbanidnaa.OctSeq
open Go.RowKit

theorem drop_pre (pre r : List UInt8) : (pre ++ r).drop pre.length = r := by simp

theorem number_at (pre rest : List UInt8) (x : Nat) (hx : x < 2 ^ 64) : rdNumber (pre ++ Oct.enc x ++ rest) pre.length 0 = (x, (pre ++ Oct.enc x).length, 0) := by
  have h : (pre ++ Oct.enc x ++ rest).drop pre.length = Oct.enc x ++ rest := by rw [List.append_assoc, drop_pre]
  unfold rdNumber
  rw [if_neg (by simp), h, Oct.dec_enc x hx rest, List.length_append, Oct.enc_length, Nat.add_comm 1]

theorem block_at (pre p rest : List UInt8) (hp : p.length ≤ 1048576) : rdBlock (pre ++ Oct.enc p.length ++ p ++ rest) pre.length 0 = (p, (pre ++ Oct.enc p.length ++ p).length, 0) := by
  have hn := number_at pre (p ++ rest) p.length (by omega)
  rw [← List.append_assoc (pre ++ Oct.enc p.length)] at hn
  have hu : rdUpto (pre ++ Oct.enc p.length ++ p ++ rest) pre.length 0 1048576 = (p.length, (pre ++ Oct.enc p.length).length, 0) := by
    unfold rdUpto
    rw [hn, if_neg (by simp only; omega)]
  unfold rdBlock
  rw [hu]
  simp only [rdFixed]
  by_cases h0 : p.length = 0
  · have : p = [] := List.eq_nil_of_length_eq_zero h0
    subst this
    simp
  · rw [if_neg (by omega), if_neg (by simp only [List.length_append, Int.toNat_natCast]; omega)]
    have h : (pre ++ Oct.enc p.length ++ p ++ rest).drop (pre ++ Oct.enc p.length).length = p ++ rest := by rw [List.append_assoc (pre ++ Oct.enc p.length), drop_pre]
    rw [h]
    simp only [Int.toNat_natCast, List.take_left', List.length_append]

/-- A number's bytes, cut short, ask for more. -/
theorem dec_short (x k : Nat) (hx : x < 2 ^ 64) (hk : k < (Oct.enc x).length) : ∃ n, Oct.dec ((Oct.enc x).take k) = (0, n, 5) := by
  have h8 := (Oct.nsize_spec x hx).1
  have hn : (UInt8.ofNat (Oct.nsize x)).toNat = Oct.nsize x := by rw [UInt8.toNat_ofNat']; omega
  rw [Oct.enc_length] at hk
  cases k with
  | zero => exact ⟨_, rfl⟩
  | succ k =>
    have hl : ((Oct.bytesBE (Oct.nsize x) x).take k).length < Oct.nsize x := by
      rw [List.length_take, Oct.bytesBE_length]; omega
    simp only [Oct.enc, List.take_succ_cons, Oct.dec, hn]
    rw [if_neg (by omega), if_pos hl]
    exact ⟨_, rfl⟩

/-- A reader of the first m bytes, when what stands in 'pre' has been read of it, or an error has come. -/
def Short (m : Nat) (pre : List UInt8) (a e : Nat) : Prop := e = 5 ∨ (e = 0 ∧ a = pre.length ∧ pre.length ≤ m)

theorem number_short (pre rest : List UInt8) (x m a e : Nat) (hx : x < 2 ^ 64) (h : Short m pre a e) :
    ∃ v a' e', rdNumber ((pre ++ Oct.enc x ++ rest).take m) a e = (v, a', e') ∧ Short m (pre ++ Oct.enc x) a' e' ∧ (e' = 0 → v = x) ∧ (e' ≠ 0 → v = 0) := by
  rcases h with rfl | ⟨rfl, rfl, hm⟩
  · exact ⟨_, _, _, by simp only [rdNumber]; rw [if_pos (by decide)], .inl rfl, fun h => (by cases h), fun _ => rfl⟩
  · by_cases hle : (pre ++ Oct.enc x).length ≤ m
    · have e1 : (pre ++ Oct.enc x ++ rest).take m = pre ++ Oct.enc x ++ rest.take (m - (pre ++ Oct.enc x).length) := by
        rw [List.take_append, List.take_of_length_le hle]
      rw [e1, number_at _ _ _ hx]
      exact ⟨_, _, _, rfl, .inr ⟨rfl, rfl, hle⟩, fun _ => rfl, fun h => absurd rfl h⟩
    · have e1 : (pre ++ Oct.enc x ++ rest).take m = pre ++ (Oct.enc x).take (m - pre.length) := by
        rw [List.append_assoc, List.take_append, List.take_of_length_le hm, List.take_append_of_le_length (by simp at hle; omega)]
      obtain ⟨n, hn⟩ := dec_short x (m - pre.length) hx (by simp at hle; omega)
      refine ⟨0, pre.length + n, 5, ?_, .inl rfl, fun h => (by cases h), fun _ => rfl⟩
      rw [e1]
      unfold rdNumber
      rw [if_neg (by simp), drop_pre, hn]

theorem block_short (pre p rest : List UInt8) (m a e : Nat) (hp : p.length ≤ 1048576) (h : Short m pre a e) :
    Short m (pre ++ Oct.enc p.length ++ p) (rdBlock ((pre ++ Oct.enc p.length ++ p ++ rest).take m) a e).2.1 (rdBlock ((pre ++ Oct.enc p.length ++ p ++ rest).take m) a e).2.2 := by
  obtain ⟨v, a', e', h1, h2, h3, h4⟩ := number_short pre (p ++ rest) p.length m a e (by omega) h
  rw [← List.append_assoc (pre ++ Oct.enc p.length)] at h1
  have hu : rdUpto ((pre ++ Oct.enc p.length ++ p ++ rest).take m) a e 1048576 = (v, a', e') := by
    unfold rdUpto
    rw [h1, if_neg]
    simp only
    rcases Nat.eq_zero_or_pos e' with h | h
    · rw [h3 h]; omega
    · rw [h4 (by omega)]; omega
  unfold rdBlock
  rw [hu]
  simp only [rdFixed]
  rcases h2 with rfl | ⟨rfl, rfl, hm⟩
  · rw [if_pos (.inl (by decide))]
    exact .inl rfl
  · have hv := h3 rfl
    subst hv
    by_cases h0 : p.length = 0
    · have : p = [] := List.eq_nil_of_length_eq_zero h0
      subst this
      simp only [List.append_nil]
      rw [if_pos (.inr (by simp))]
      exact .inr ⟨rfl, rfl, hm⟩
    · rw [if_neg (by omega)]
      split
      · exact .inl rfl
      · rename_i hl
        refine .inr ⟨rfl, ?_, ?_⟩
        · simp [Nat.add_assoc]
        · simp only [Int.toNat_natCast, List.length_take, List.length_append] at hl hm ⊢
          omega

/-- Read to its end, what is a byte short has asked for more. -/
theorem short_end {m a e : Nat} {pre : List UInt8} (h : Short m pre a e) (hm : m < pre.length) : e = 5 := by
  rcases h with h | ⟨_, _, h⟩
  · exact h
  · omega
end Go.Proofs.Ytmfjlcgbanidnaa.OctSeq
