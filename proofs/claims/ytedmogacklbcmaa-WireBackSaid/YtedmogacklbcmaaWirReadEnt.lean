/- wire.ReadEntry. -/
import Derived.Test.YtedmogacklbcmaaWirBytes
namespace Go.Proofs.Ytedmogacklbcmaa.Wir
open Go.RowKit Cfg Num RdP CpA
theorem block_own (m : List UInt8) (hm : m.length ≤ 1048576) (h0 : 0 < m.length) (p r : List UInt8) : rdBlock (p ++ (blk m ++ r)) p.length 0 = (m, (p ++ blk m).length, 0) := by
  have h1 := upto_own m.length 1048576 (by omega) hm p (m ++ r)
  have h2 := fixed_own m (m.length : Int) rfl (by omega) (p ++ Oct.enc m.length) r
  unfold rdBlock blk
  simp only [List.append_assoc] at h1 h2 ⊢
  rw [h1]
  exact h2
theorem block_zero {b : List UInt8} {a e a' : Nat} {m : List UInt8} (h : rdBlock b a e = (m, a', 0)) : e = 0 ∧ b.drop a = blk m ++ b.drop a' ∧ m.length ≤ 1048576 := by
  obtain ⟨n, a1, e1, h1⟩ : ∃ x y z, rdUpto b a e 1048576 = (x, y, z) := ⟨_, _, _, rfl⟩
  unfold rdBlock at h
  rw [h1] at h
  obtain ⟨q, k2, l2⟩ := fixed_zero h
  subst q
  obtain ⟨q, k1, l1, _⟩ := upto_zero h1
  have hl : m.length = n := by omega
  refine ⟨q, ?_, by omega⟩
  unfold blk
  rw [k1, k2, hl, List.append_assoc]
/-- What is read behind an entry's numbers. -/
def rdTail (b : List UInt8) (k p x a e : Nat) : En × Nat × Nat :=
  if k = 1 then (⟨(k : Int), (p : Int), (x : Int), (rdOpn (rdBlock b a e).1).getD (zop 0 0), 0, 0, zkey⟩, (rdBlock b a e).2.1, (rdBlock b a e).2.2)
  else if k = 2 then
    match rdNumber b a e with
    | (s, a1, e1) => match rdUpto b a1 e1 65536 with
      | (q, a2, e2) => match rdFixed b a2 e2 32 with
        | (y, a3, e3) => (⟨(k : Int), (p : Int), (x : Int), zop 0 0, (s : Int), (q : Int), padTo 32 y⟩, a3, e3)
  else if k = 3 then (⟨(k : Int), (p : Int), (x : Int), zop 0 0, ((rdNumber b a e).1 : Int), 0, zkey⟩, (rdNumber b a e).2.1, (rdNumber b a e).2.2)
  else (⟨(k : Int), (p : Int), (x : Int), zop 0 0, 0, 0, zkey⟩, a, e)
def rdEnt (b : List UInt8) : Option En :=
  match rdUpto b 0 0 3 with
  | (k, a1, e1) => match rdUpto b a1 e1 4294967295 with
    | (p, a2, e2) => match rdNumber b a2 e2 with
      | (x, a3, e3) => match rdTail b k p x a3 e3 with
        | (E, a, e) => if rdEnd b a e = 0 ∧ okE E = true then some E else none
theorem rdEnt_eq {b : List UInt8} {k a1 e1 p a2 e2 x a3 e3 a e : Nat} {E : En} (h1 : rdUpto b 0 0 3 = (k, a1, e1)) (h2 : rdUpto b a1 e1 4294967295 = (p, a2, e2)) (h3 : rdNumber b a2 e2 = (x, a3, e3)) (h4 : rdTail b k p x a3 e3 = (E, a, e)) :
    rdEnt b = if rdEnd b a e = 0 ∧ okE E = true then some E else none := by
  unfold rdEnt
  rw [h1]
  dsimp only
  rw [h2]
  dsimp only
  rw [h3]
  dsimp only
  rw [h4]
theorem not_bits : ∀ b1 b2 b3 b4 : Bool,
    (bits .andNot .i64 (bits .or .i64 (bits .or .i64 (bits .or .i64 (mk 1 b1) (mk 2 b2)) (mk 4 b3)) (mk 8 b4)) 1 = 0 → b2 = false ∧ b3 = false ∧ b4 = false) ∧
    (bits .andNot .i64 (bits .or .i64 (bits .or .i64 (bits .or .i64 (mk 1 b1) (mk 2 b2)) (mk 4 b3)) (mk 8 b4)) 14 = 0 → b1 = false) ∧
    (bits .andNot .i64 (bits .or .i64 (bits .or .i64 (bits .or .i64 (mk 1 b1) (mk 2 b2)) (mk 4 b3)) (mk 8 b4)) 2 = 0 → b1 = false ∧ b3 = false ∧ b4 = false) := by decide
theorem okE_not {e : En} (h : okE e = true) : (e.kind = 1 → e.sid = 0 ∧ e.peer = 0 ∧ e.sec = zkey) ∧ (e.kind = 2 → e.op = zop 0 0) ∧ (e.kind = 3 → e.op = zop 0 0 ∧ e.peer = 0 ∧ e.sec = zkey) := by
  simp only [okE, Bool.and_eq_true, beq_iff_eq] at h
  have hn := h.1.1.1.1.1.2
  unfold notZ usedZ at hn
  obtain ⟨n1, n2, n3⟩ := not_bits (!decide (e.op = zop 0 0)) (e.sid != 0) (e.peer != 0) (!decide (e.sec = zkey))
  refine ⟨fun hk => ?_, fun hk => ?_, fun hk => ?_⟩
  · rw [hk] at hn
    have := n1 hn
    simpa using this
  · rw [hk] at hn
    have := n2 hn
    simpa using this
  · rw [hk] at hn
    have := n3 hn
    simpa using this
theorem rdEnt_pre (e : En) (hk : e.K) (hV : okE e = true) (hR : e.R) (r : List UInt8) : rdEnt (e.enc ++ r) = if rdEnd (e.enc ++ r) e.enc.length 0 = 0 then some e else none := by
  have hkd := okE_kind hV
  obtain ⟨z1, z2, z3⟩ := okE_not hV
  have hop := fun h => okE_op hV h
  have hpe := fun h => okE_peer hV h
  have hV0 := hV
  have hk0 := hk
  have hR0 := hR
  obtain ⟨r1, r2, r3, r4, r5⟩ := hR
  obtain ⟨kind, ep, ix, o, sid, peer, sec⟩ := e
  simp only at r1 r2 r3 r4 r5 hkd z1 z2 z3 hop hpe
  obtain ⟨k', rfl⟩ : ∃ n : Nat, kind = (n : Int) := ⟨kind.toNat, by omega⟩
  obtain ⟨p', rfl⟩ : ∃ n : Nat, ep = (n : Int) := ⟨ep.toNat, by omega⟩
  obtain ⟨x', rfl⟩ : ∃ n : Nat, ix = (n : Int) := ⟨ix.toNat, by omega⟩
  obtain ⟨s', rfl⟩ : ∃ n : Nat, sid = (n : Int) := ⟨sid.toNat, by omega⟩
  rcases hkd with hq | hq | hq
  · obtain ⟨q1, q2, q3⟩ := z1 hq
    have hop := hop hq
    have hq' : k' = 1 := by omega
    have hE : (⟨(k' : Int), (p' : Int), (x' : Int), o, (s' : Int), peer, sec⟩ : En).enc ++ r = Oct.enc k' ++ (Oct.enc p' ++ (Oct.enc x' ++ (blk o.enc ++ r))) ∧ (⟨(k' : Int), (p' : Int), (x' : Int), o, (s' : Int), peer, sec⟩ : En).enc.length = (Oct.enc k' ++ (Oct.enc p' ++ (Oct.enc x' ++ blk o.enc))).length := by
      unfold En.enc
      simp only []
      rw [if_pos hq]
      refine ⟨?_, ?_⟩ <;> simp [encs]
    have hlen := op_len hop hk.1 r4 r5
    have hpos : 0 < o.enc.length := by
      unfold Opn.enc
      rw [List.length_append, Oct.enc_length]
      omega
    have h1 := upto_own k' 3 (by omega) (by omega) [] (Oct.enc p' ++ (Oct.enc x' ++ (blk o.enc ++ r)))
    have h2 := upto_own p' 4294967295 (by omega) (by omega) (Oct.enc k') (Oct.enc x' ++ (blk o.enc ++ r))
    have h3 := num_own x' (by omega) (Oct.enc k' ++ Oct.enc p') (blk o.enc ++ r)
    have h4 := block_own o.enc (by omega) hpos (Oct.enc k' ++ Oct.enc p' ++ Oct.enc x') r
    simp only [List.nil_append, List.append_nil, List.append_assoc, List.length_nil] at h1 h2 h3 h4
    have h5 : rdTail (Oct.enc k' ++ (Oct.enc p' ++ (Oct.enc x' ++ (blk o.enc ++ r)))) k' p' x' (Oct.enc k' ++ (Oct.enc p' ++ Oct.enc x')).length 0 = (⟨(k' : Int), (p' : Int), (x' : Int), o, (s' : Int), peer, sec⟩, (Oct.enc k' ++ (Oct.enc p' ++ (Oct.enc x' ++ blk o.enc))).length, 0) := by
      unfold rdTail
      rw [if_pos hq', h4]
      simp only [rdOpn_own o hop hk.1 r4 r5, Option.getD_some, q1, q2, q3]
    rw [hE.1, hE.2, rdEnt_eq h1 h2 h3 h5]
    split
    · rename_i hc
      rw [if_pos hc.1]
    · rename_i hc
      rw [if_neg fun h => hc ⟨h, hV0⟩]
  · have q1 := z2 hq
    have hpe := hpe hq
    have hq' : k' = 2 := by omega
    obtain ⟨q', rfl⟩ : ∃ n : Nat, peer = (n : Int) := ⟨peer.toNat, by omega⟩
    have hE : (⟨(k' : Int), (p' : Int), (x' : Int), o, (s' : Int), (q' : Int), sec⟩ : En).enc ++ r = Oct.enc k' ++ (Oct.enc p' ++ (Oct.enc x' ++ (Oct.enc s' ++ (Oct.enc q' ++ (sec ++ r))))) ∧ (⟨(k' : Int), (p' : Int), (x' : Int), o, (s' : Int), (q' : Int), sec⟩ : En).enc.length = (Oct.enc k' ++ (Oct.enc p' ++ (Oct.enc x' ++ (Oct.enc s' ++ (Oct.enc q' ++ sec))))).length := by
      unfold En.enc
      simp only []
      rw [if_neg (by omega), if_pos hq]
      refine ⟨?_, ?_⟩ <;> simp [encs]
    have h1 := upto_own k' 3 (by omega) (by omega) [] (Oct.enc p' ++ (Oct.enc x' ++ (Oct.enc s' ++ (Oct.enc q' ++ (sec ++ r)))))
    have h2 := upto_own p' 4294967295 (by omega) (by omega) (Oct.enc k') (Oct.enc x' ++ (Oct.enc s' ++ (Oct.enc q' ++ (sec ++ r))))
    have h3 := num_own x' (by omega) (Oct.enc k' ++ Oct.enc p') (Oct.enc s' ++ (Oct.enc q' ++ (sec ++ r)))
    have h4 := num_own s' (by omega) (Oct.enc k' ++ Oct.enc p' ++ Oct.enc x') (Oct.enc q' ++ (sec ++ r))
    have h5 := upto_own q' 65536 (by omega) (by omega) (Oct.enc k' ++ Oct.enc p' ++ Oct.enc x' ++ Oct.enc s') (sec ++ r)
    have h6 := fixed_own sec 32 (by rw [hk.2]; rfl) (by decide) (Oct.enc k' ++ Oct.enc p' ++ Oct.enc x' ++ Oct.enc s' ++ Oct.enc q') r
    simp only [List.nil_append, List.append_nil, List.append_assoc, List.length_nil] at h1 h2 h3 h4 h5 h6
    have h7 : rdTail (Oct.enc k' ++ (Oct.enc p' ++ (Oct.enc x' ++ (Oct.enc s' ++ (Oct.enc q' ++ (sec ++ r)))))) k' p' x' (Oct.enc k' ++ (Oct.enc p' ++ Oct.enc x')).length 0 = (⟨(k' : Int), (p' : Int), (x' : Int), o, (s' : Int), (q' : Int), sec⟩, (Oct.enc k' ++ (Oct.enc p' ++ (Oct.enc x' ++ (Oct.enc s' ++ (Oct.enc q' ++ sec))))).length, 0) := by
      unfold rdTail
      rw [if_neg (by omega), if_pos hq', h4]
      dsimp only
      rw [h5]
      dsimp only
      rw [h6]
      dsimp only
      rw [padTo_full hk.2, q1]
    rw [hE.1, hE.2, rdEnt_eq h1 h2 h3 h7]
    split
    · rename_i hc
      rw [if_pos hc.1]
    · rename_i hc
      rw [if_neg fun h => hc ⟨h, hV0⟩]
  · obtain ⟨q1, q2, q3⟩ := z3 hq
    have hq' : k' = 3 := by omega
    have hE : (⟨(k' : Int), (p' : Int), (x' : Int), o, (s' : Int), peer, sec⟩ : En).enc ++ r = Oct.enc k' ++ (Oct.enc p' ++ (Oct.enc x' ++ (Oct.enc s' ++ r))) ∧ (⟨(k' : Int), (p' : Int), (x' : Int), o, (s' : Int), peer, sec⟩ : En).enc.length = (Oct.enc k' ++ (Oct.enc p' ++ (Oct.enc x' ++ Oct.enc s'))).length := by
      unfold En.enc
      simp only []
      rw [if_neg (by omega), if_neg (by omega)]
      refine ⟨?_, ?_⟩ <;> simp [encs]
    have h1 := upto_own k' 3 (by omega) (by omega) [] (Oct.enc p' ++ (Oct.enc x' ++ (Oct.enc s' ++ r)))
    have h2 := upto_own p' 4294967295 (by omega) (by omega) (Oct.enc k') (Oct.enc x' ++ (Oct.enc s' ++ r))
    have h3 := num_own x' (by omega) (Oct.enc k' ++ Oct.enc p') (Oct.enc s' ++ r)
    have h4 := num_own s' (by omega) (Oct.enc k' ++ Oct.enc p' ++ Oct.enc x') r
    simp only [List.nil_append, List.append_nil, List.append_assoc, List.length_nil] at h1 h2 h3 h4
    have h5 : rdTail (Oct.enc k' ++ (Oct.enc p' ++ (Oct.enc x' ++ (Oct.enc s' ++ r)))) k' p' x' (Oct.enc k' ++ (Oct.enc p' ++ Oct.enc x')).length 0 = (⟨(k' : Int), (p' : Int), (x' : Int), o, (s' : Int), peer, sec⟩, (Oct.enc k' ++ (Oct.enc p' ++ (Oct.enc x' ++ Oct.enc s'))).length, 0) := by
      unfold rdTail
      rw [if_neg (by omega), if_neg (by omega), if_pos hq', h4, q1, q2, q3]
    rw [hE.1, hE.2, rdEnt_eq h1 h2 h3 h5]
    split
    · rename_i hc
      rw [if_pos hc.1]
    · rename_i hc
      rw [if_neg fun h => hc ⟨h, hV0⟩]
theorem rdEnt_own (e : En) (hk : e.K) (hV : okE e = true) (hR : e.R) : rdEnt e.enc = some e := by
  have h := rdEnt_pre e hk hV hR []
  rw [List.append_nil] at h
  rw [h, if_pos (end_own _)]
theorem rdEnt_more (e : En) (hk : e.K) (hV : okE e = true) (hR : e.R) : rdEnt (e.enc ++ [0]) = none := by
  rw [rdEnt_pre e hk hV hR, if_neg]
  unfold rdEnd
  rw [if_pos ⟨rfl, by simp⟩]
  decide
theorem En.enc_pos (e : En) : 0 < e.enc.length := by
  unfold En.enc
  rw [List.length_append]
  have : (encs [e.kind.toNat, e.ep.toNat, e.ix.toNat]).length = (Oct.enc e.kind.toNat).length + ((Oct.enc e.ep.toNat).length + (Oct.enc e.ix.toNat).length) := by simp [encs]
  rw [this, Oct.enc_length]
  omega
theorem zop_range : 0 ≤ (zop 0 0).addr ∧ (zop 0 0).addr ≤ 4294967295 ∧ 0 ≤ (zop 0 0).ref ∧ (zop 0 0).ref < 18446744073709551616 ∧ (zop 0 0).ky.length = 32 := ⟨by decide, by decide, by decide, by decide, zkey_len⟩
theorem rdEnt_bytes {b : List UInt8} {e : En} (h : rdEnt b = some e) : e.enc = b ∧ okE e = true ∧ e.K ∧ e.R := by
  obtain ⟨k, a1, e1, h1⟩ : ∃ x y z, rdUpto b 0 0 3 = (x, y, z) := ⟨_, _, _, rfl⟩
  obtain ⟨p, a2, e2, h2⟩ : ∃ x y z, rdUpto b a1 e1 4294967295 = (x, y, z) := ⟨_, _, _, rfl⟩
  obtain ⟨x, a3, e3, h3⟩ : ∃ x y z, rdNumber b a2 e2 = (x, y, z) := ⟨_, _, _, rfl⟩
  obtain ⟨E, a4, e4, h4⟩ : ∃ u y z, rdTail b k p x a3 e3 = (u, y, z) := ⟨_, _, _, rfl⟩
  rw [rdEnt_eq h1 h2 h3 h4] at h
  split at h
  · rename_i hn
    injection h with h
    subst h
    obtain ⟨q6, hd⟩ := end_zero hn.1
    subst q6
    have hV := hn.2
    have hkd := okE_kind hV
    unfold rdTail at h4
    by_cases c1 : k = 1
    · rw [if_pos c1] at h4
      obtain ⟨m, a5, e5, hb⟩ : ∃ x y z, rdBlock b a3 e3 = (x, y, z) := ⟨_, _, _, rfl⟩
      rw [hb] at h4
      simp only [Prod.mk.injEq] at h4
      obtain ⟨rfl, rfl, rfl⟩ := h4
      obtain ⟨rfl, k4, _⟩ := block_zero hb
      obtain ⟨rfl, k3, m3⟩ := num_zero h3
      obtain ⟨rfl, k2, m2, _⟩ := upto_zero h2
      obtain ⟨_, k1, _, _⟩ := upto_zero h1
      have hop := okE_op hV (by show (k : Int) = 1; omega)
      simp only at hop
      cases ho : rdOpn m with
      | none =>
        rw [ho] at hop
        exact absurd hop (by decide)
      | some o =>
        obtain ⟨g1, g2, g3, g4, g5⟩ := rdOpn_bytes ho
        rw [ho] at hV
        simp only [Option.getD_some] at hV ⊢
        refine ⟨?_, hV, ⟨g3, zkey_len⟩, ⟨⟨by simp, by simp only; omega⟩, ⟨by simp, by simp only; omega⟩, ⟨by simp, by simp⟩, g4, g5⟩⟩
        rw [List.drop_zero] at k1
        rw [k1, k2, k3, k4, hd, List.append_nil]
        unfold En.enc
        simp only []
        rw [if_pos (by omega), g1]
        simp [encs]
    · by_cases c2 : k = 2
      · rw [if_neg c1, if_pos c2] at h4
        obtain ⟨s, a5, e5, g1⟩ : ∃ x y z, rdNumber b a3 e3 = (x, y, z) := ⟨_, _, _, rfl⟩
        obtain ⟨q, a6, e6, g2⟩ : ∃ x y z, rdUpto b a5 e5 65536 = (x, y, z) := ⟨_, _, _, rfl⟩
        obtain ⟨y, a7, e7, g3⟩ : ∃ x y z, rdFixed b a6 e6 32 = (x, y, z) := ⟨_, _, _, rfl⟩
        rw [g1] at h4
        dsimp only at h4
        rw [g2] at h4
        dsimp only at h4
        rw [g3] at h4
        simp only [Prod.mk.injEq] at h4
        obtain ⟨rfl, rfl, rfl⟩ := h4
        obtain ⟨rfl, k7, m7⟩ := fixed_zero g3
        obtain ⟨rfl, k6, m6, _⟩ := upto_zero g2
        obtain ⟨rfl, k5, m5⟩ := num_zero g1
        obtain ⟨rfl, k3, m3⟩ := num_zero h3
        obtain ⟨rfl, k2, m2, _⟩ := upto_zero h2
        obtain ⟨_, k1, _, _⟩ := upto_zero h1
        have hy : y.length = 32 := by omega
        rw [padTo_full hy] at hV ⊢
        obtain ⟨t1, t2, t3, t4, t5⟩ := zop_range
        refine ⟨?_, hV, ⟨t5, hy⟩, ⟨⟨by simp, by simp only; omega⟩, ⟨by simp, by simp only; omega⟩, ⟨by simp, by simp only; omega⟩, ⟨t1, t2⟩, ⟨t3, t4⟩⟩⟩
        rw [List.drop_zero] at k1
        rw [k1, k2, k3, k5, k6, k7, hd, List.append_nil]
        unfold En.enc
        simp only []
        rw [if_neg (by omega), if_pos (by omega)]
        simp [encs]
      · have c3 : k = 3 := by
          have hk : (E.kind : Int) = (k : Int) := by
            rw [if_neg c1, if_neg c2] at h4
            split at h4
            · simp only [Prod.mk.injEq] at h4
              rw [← h4.1]
            · simp only [Prod.mk.injEq] at h4
              rw [← h4.1]
          omega
        rw [if_neg c1, if_neg c2, if_pos c3] at h4
        obtain ⟨s, a5, e5, g1⟩ : ∃ x y z, rdNumber b a3 e3 = (x, y, z) := ⟨_, _, _, rfl⟩
        rw [g1] at h4
        simp only [Prod.mk.injEq] at h4
        obtain ⟨rfl, rfl, rfl⟩ := h4
        obtain ⟨rfl, k5, m5⟩ := num_zero g1
        obtain ⟨rfl, k3, m3⟩ := num_zero h3
        obtain ⟨rfl, k2, m2, _⟩ := upto_zero h2
        obtain ⟨_, k1, _, _⟩ := upto_zero h1
        obtain ⟨t1, t2, t3, t4, t5⟩ := zop_range
        refine ⟨?_, hV, ⟨t5, zkey_len⟩, ⟨⟨by simp, by simp only; omega⟩, ⟨by simp, by simp only; omega⟩, ⟨by simp, by simp only; omega⟩, ⟨t1, t2⟩, ⟨t3, t4⟩⟩⟩
        rw [List.drop_zero] at k1
        rw [k1, k2, k3, k5, hd, List.append_nil]
        unfold En.enc
        simp only []
        rw [if_neg (by omega), if_neg (by omega)]
        simp [encs]
  · cases h
end Go.Proofs.Ytedmogacklbcmaa.Wir
namespace Go.Proofs.Ytedmogacklbcmaa.Wir
open Go.RowKit Cfg Num RdK CpA
set_option maxRecDepth 100000 in
theorem epoch_any {w : World} {lo g : Nat} {l : List UInt8} {at_ err : Nat} (h : Rd w lo g l at_ err) : Calls Try.prog 60 #[.pointer (some ⟨g, 0, none⟩)] w fun e w' =>
    e = .returned (.int .u32 ((rdUpto l at_ err 4294967295).1 : Nat)) ∧ Rd w' lo g l (rdUpto l at_ err 4294967295).2.1 (rdUpto l at_ err 4294967295).2.2 ∧ w.grownBy w' (some g) := by
  obtain ⟨x, a1, e1, hrd⟩ : ∃ x a e, rdUpto l at_ err 4294967295 = (x, a, e) := ⟨_, _, _, rfl⟩
  have hx : x ≤ 4294967295 := by have := RdP.upto_le l at_ err 4294967295; rwa [hrd] at this
  have hf := Upto_any 4294967295 h
  rw [hrd] at hf ⊢
  have Hf := Lib.hid hf
  have hw := wrap_u32 x hx
  clear hf h hx hrd
  go_enter Try.func60, Try.ntmps60
  go_wp2_with fail
  refine Hf.out.mono ?_
  rintro e w1 ⟨rfl, hr, hg⟩
  have Hr := Lib.hid hr
  have Hg := Lib.hid hg
  clear hr hg
  go_wp2
  go_ret
  exact ⟨rfl, Hr.out, Hg.out⟩
/-- 'copy' of at most n bytes into n cells in the midst of a row, as an operation. -/
theorem op_copy_at (n off : Nat) {w : World} {o : Oper} {a : Act} {K : Act → World → Prop} {Q : Exit → Act → World → Prop} (d s : Operand)
    (ho : o.op = .call { callee := .builtin .copy, args := #[d, s], argTypes := #[31, 31] }) {g B c2 : Nat} {y : Value} {l : List UInt8} {t : TypeId} {old : List Value}
    (hd : a.eval d = .slice (some ⟨g, off, none⟩) n c2) (hs : a.eval s = y) (hy : Bs w B y l) (hl : l.length ≤ n) (hg : Row w g old t) (hfit : off + l.length ≤ old.length)
    (h : ∀ w', Row w' g (splice old off (l.map bv)) t → w.grownBy w' (some g) → K (a.put o.dst (goInt l.length)) w') : o.wp Try.prog a w K Q := by
  obtain ⟨A, c, rfl, _, hcs⟩ := hy
  by_cases hne : l = []
  · subst hne
    have hrun := run_copy_none (P := Try.prog) w 31 31 o.type 5 (some ⟨g, off, none⟩) A n c2 0 c (by kernel_rfl) (by kernel_rfl) (by simp)
    unfold Oper.wp
    simp [execOp, ho, resolve, invoke, builtin, hd, hs, hrun, Result.andThen]
    refine h w ?_ ⟨rfl, rfl, rfl, Nat.le_refl _, fun _ _ _ => rfl⟩
    rw [show splice old off (([] : List UInt8).map bv) = old by simp [splice]]
    exact hg
  · obtain ⟨b, of, rfl, _, hcell⟩ := hcs hne
    have hsrc : ∀ j v, (l.map bv)[j]? = some v → w.cell? ((⟨b, of, none⟩ : Addr).add j) = some v := by
      intro j v hv
      rw [List.getElem?_map, Option.map_eq_some_iff] at hv
      obtain ⟨u, hu, rfl⟩ := hv
      rw [show (⟨b, of, none⟩ : Addr).add j = ⟨b, of + j, none⟩ by unfold Addr.add; split <;> simp_all]
      exact hcell j u hu
    have hrun := run_copy_row (P := Try.prog) w 31 31 o.type 5 g off n c2 ⟨b, of, none⟩ l.length c old.toArray t (l.map bv) (by kernel_rfl) (by kernel_rfl) hg (by rw [List.length_map]; exact (Nat.min_eq_left hl).symm) hsrc (by simp; omega) (one_bytes _)
    unfold Oper.wp
    simp [execOp, ho, resolve, invoke, builtin, hd, hs, hrun, Result.andThen]
    have hx := h (w.setRow g (splice old off (l.map bv)).toArray) (setRow_heap w g _ _ t _ hg) ⟨rfl, rfl, rfl, by simp [World.setRow], fun k _ hk => setRow_other w g k _ fun e => hk (by rw [e])⟩
    simp [splice] at hx
    exact hx
end Go.Proofs.Ytedmogacklbcmaa.Wir
namespace Go.Proofs.Ytedmogacklbcmaa.Wir
open Go.RowKit Cfg Num RdK CpA
theorem sp_sid {e : En} (h : e.K) (x : Int) : e.cs.set 40 (.int .u64 x) = { e with sid := x }.cs := by
  show _ :: _ :: _ :: (e.op.cs ++ _).set 37 _ = _
  rw [List.set_append_right _ _ (by rw [Opn.len h.1]; omega), Opn.len h.1]
  rfl
theorem sp_peer {e : En} (h : e.K) (x : Int) : e.cs.set 41 (.int .i64 x) = { e with peer := x }.cs := by
  show _ :: _ :: _ :: (e.op.cs ++ _).set 38 _ = _
  rw [List.set_append_right _ _ (by rw [Opn.len h.1]; omega), Opn.len h.1]
  rfl
theorem sp_op {e : En} (h : e.K) {o : Opn} (ho : o.ky.length = 32) : splice e.cs 3 o.cs = { e with op := o }.cs := by
  unfold splice
  rw [Opn.len ho]
  show [_, _, _] ++ o.cs ++ (e.op.cs ++ _).drop 37 = _
  rw [List.drop_append, List.drop_of_length_le (by rw [Opn.len h.1]; omega), Opn.len h.1]
  simp [En.cs]
theorem block_len (b : List UInt8) (a e : Nat) : (rdBlock b a e).1.length ≤ 1048576 := by
  unfold rdBlock
  have h1 := RdP.upto_le b a e 1048576
  exact Nat.le_trans (RdP.fixed_len b _ _ _) h1
theorem sp_sec {e : En} (h : e.K) (hz : e.sec = zkey) {l : List UInt8} (hl : l.length ≤ 32) : splice e.cs 42 (l.map bv) = { e with sec := padTo 32 l }.cs := by
  have hzk : (zkey : List UInt8) = List.replicate 32 0 := rfl
  have h42 : e.cs = (.int .i64 e.kind :: .int .u32 e.ep :: .int .u64 e.ix :: (e.op.cs ++ [.int .u64 e.sid, .int .i64 e.peer])) ++ e.sec.map bv := by simp [En.cs]
  have hlen : (Value.int .i64 e.kind :: Value.int .u32 e.ep :: Value.int .u64 e.ix :: (e.op.cs ++ [Value.int .u64 e.sid, Value.int .i64 e.peer])).length = 42 := by simp [Opn.len h.1]
  have h43 : ({ e with sec := padTo 32 l } : En).cs = (.int .i64 e.kind :: .int .u32 e.ep :: .int .u64 e.ix :: (e.op.cs ++ [.int .u64 e.sid, .int .i64 e.peer])) ++ (padTo 32 l).map bv := by simp [En.cs]
  rw [h43, h42]
  unfold splice
  rw [List.take_append_of_le_length (by rw [hlen]; exact Nat.le_refl _), List.take_of_length_le (by rw [hlen]; exact Nat.le_refl _), List.length_map, List.drop_append, List.drop_of_length_le (by rw [hlen]; omega), hlen, List.nil_append, hz, hzk]
  congr 1
  unfold padTo
  rw [List.map_append, show 42 + l.length - 42 = l.length by omega, ← List.map_drop, List.drop_replicate]
def geF (ge : Nat) (s : Nat) (x y : World) : Prop := 1 ≤ s → x.grownBy y (some ge)
theorem geF.refl (ge s : Nat) (x : World) : geF ge s x x := fun _ => ⟨rfl, rfl, rfl, Nat.le_refl _, fun _ _ _ => rfl⟩
def fixM (ge B : Nat) (l : List UInt8) (h : ge < B) : ByL.Mark RdL.TT (geF ge) := ⟨fun v w => Own w B v l, some 0, fun v x y s ho _ hF hs => RdL.owns_grown ho (hF (hs 0 rfl)) fun i e => by injection e with e; omega⟩
set_option maxRecDepth 100000 in
theorem build_ent (k p x : Int) (w : World) : (Instr.build 49 #[(0, .int .i64 k), (1, .int .u32 p), (2, .int .u64 x)]).run Try.prog w = .ok (En.val ⟨k, p, x, zop 0 0, 0, 0, zkey⟩) w := by kernel_rfl
set_option maxRecDepth 100000 in
theorem build_ent0 (w : World) : (Instr.build 49 #[]).run Try.prog w = .ok zen.val w := by kernel_rfl
theorem zero_ent' : (Try.prog.info? 49).bind (·.zero) = some (.agg zen.cs.toArray) := by kernel_rfl
set_option maxRecDepth 100000 in
set_option maxHeartbeats 4000000 in
theorem ReadEntry_any (v : Value) (b : List UInt8) (w : World) (hb : Bs w w.heap.size v b) (hl : b.length ≤ 35184372088832) :
    Calls Try.prog 22 #[v] w fun r w' => (∀ o, rdEnt b = some o → r = .returned (.tuple #[o.val, .int .i64 0])) ∧ (rdEnt b = none → r = .returned (.tuple #[zen.val, .int .i64 4])) ∧ Below w.heap.size w w' := by
  have Hb := Lib.hid hb
  clear hb
  go_enter Try.func22, Try.ntmps22
  go_wp2_with (first
    | (refine QB.wpList_alloc rfl 49 rfl zero_ent' ?_; intro V hr0 hb0)
    | fail)
  have hr0' : Row V w.heap.size zen.cs 49 := hr0
  refine (Go.Proofs.Ytedmogacklbcmaa.New_any _ b _ ((Hb.out.below hb0).more hb0.size) hl).mono ?_
  rintro r w1 ⟨g, rfl, hg1, hg2, hr1, hb1⟩
  have hg0 : w.heap.size < g := Nat.lt_of_lt_of_le hr0'.lt hg1
  have HB1 := Lib.hid (nextB hb0 (Nat.le_refl _) hb1)
  have HR1 := Lib.hid (hr0'.below hb1 hr0'.lt)
  have HD1 := Lib.hid hr1
  have HG := Lib.hid (show w.heap.size < g from hg0)
  clear hr0 hr0' hb0 hg1 hg2 hr1 hb1 hg0 Hb hl
  obtain ⟨z1, a1, e1, h⟩ : ∃ x a e, rdUpto b 0 0 3 = (x, a, e) := ⟨_, _, _, rfl⟩
  have H1 := Lib.hid h
  have hw1 := wrap_i64n z1 (by have := RdP.upto_le b 0 0 3; rw [h] at this; omega)
  have hz1 : z1 ≤ 3 := by have := RdP.upto_le b 0 0 3; rw [h] at this; omega
  have HZ1 := Lib.hid hz1
  clear hz1
  clear h
  go_wp2_with fail
  refine (Upto_any 3 HD1.out).mono ?_
  rw [H1.out]
  rintro r w2 ⟨rfl, hr, hgr⟩
  have HD2 := Lib.hid hr
  have HB2 := Lib.hid (HB1.out.grown hgr HB1.out.size (fun q hq => by injection hq with hq; have := HG.out; omega))
  have HR2 := Lib.hid (row_grown HR1.out hgr (by have := HG.out; omega))
  clear hr hgr HD1 HB1 HR1
  obtain ⟨z2, a2, e2, h⟩ : ∃ x a e, rdUpto b a1 e1 4294967295 = (x, a, e) := ⟨_, _, _, rfl⟩
  have H2 := Lib.hid h
  clear h
  go_wp2_with fail
  refine (epoch_any HD2.out).mono ?_
  rw [H2.out]
  rintro r w3 ⟨rfl, hr, hgr⟩
  have HD3 := Lib.hid hr
  have HB3 := Lib.hid (HB2.out.grown hgr HB2.out.size (fun q hq => by injection hq with hq; have := HG.out; omega))
  have HR3 := Lib.hid (row_grown HR2.out hgr (by have := HG.out; omega))
  clear hr hgr HD2 HB2 HR2
  obtain ⟨z3, a3, e3, h⟩ : ∃ x a e, rdNumber b a2 e2 = (x, a, e) := ⟨_, _, _, rfl⟩
  have H3 := Lib.hid h
  clear h
  go_wp2_with fail
  refine (RNumber_any HD3.out).mono ?_
  rw [H3.out]
  rintro r w4 ⟨rfl, hr, hgr⟩
  have HD4 := Lib.hid hr
  have HB4 := Lib.hid (HB3.out.grown hgr HB3.out.size (fun q hq => by injection hq with hq; have := HG.out; omega))
  have HR4 := Lib.hid (row_grown HR3.out hgr (by have := HG.out; omega))
  clear hr hgr HD3 HB3 HR3
  obtain ⟨O, hO⟩ : ∃ O : En, O = ⟨(z1 : Int), (z2 : Int), (z3 : Int), zop 0 0, 0, 0, zkey⟩ := ⟨_, rfl⟩
  have HBO := Lib.hid (show (Instr.build 49 #[(0, .int .i64 (z1 : Int)), (1, .int .u32 (z2 : Int)), (2, .int .u64 (z3 : Int))]).run Try.prog w4 = .ok O.val w4 by rw [hO]; exact build_ent _ _ _ w4)
  have HOK := Lib.hid (show O.K by rw [hO]; exact zen_K)
  have HO := Lib.hid hO
  clear hO
  go_wp2_with (first
    | (refine wpList_bp rfl 49 _ rfl (ps := #[(0, .int .i64 (z1 : Int)), (1, .int .u32 (z2 : Int)), (2, .int .u64 (z3 : Int))]) (by kernel_rfl) HBO.out ?_; clear HBO)
    | (refine QB.wpList_alloc rfl 49 rfl zero_ent' ?_; intro W8 hr8 hb8; have HR8 := Lib.hid (show Row W8 w4.heap.size zen.cs 49 from hr8); have HB8 := Lib.hid hb8; clear hr8 hb8)
    | (refine wpList_storeRow rfl 49 _ _ rfl rfl (cs := O.cs) rfl HR8.out (by kernel_rfl) (En.len HOK.out) (En.len zen_K) O.one ?_
       refine QB.name fun W9 hW => ?_
       have hbw : Below w4.heap.size w4 W9 := hW ▸ below_setRow HB8.out (Nat.le_refl _) _
       have HRO := Lib.hid (show Row W9 w4.heap.size O.cs 49 from hW ▸ HR8.out.setRow _)
       have HD9 := Lib.hid (HD4.out.below hbw (rd_lt HD4.out))
       have HB9 := Lib.hid (nextB HB4.out (Nat.le_refl _) hbw)
       have HR9 := Lib.hid (HR4.out.below hbw HR4.out.lt)
       have HGO := Lib.hid (show g < w4.heap.size from rd_lt HD4.out)
       have m0 := HRO.out.cell (i := 0) (by rw [HO.out]; rfl)
       clear hW hbw HR8 HB8 HD4 HB4 HR4)
    | fail)
  clear m0
  refine (entryFields_any _ W9).mono ?_
  rintro r W10 ⟨rfl, hb10⟩
  obtain ⟨ge, hge⟩ : ∃ q, w4.heap.size = q := ⟨_, rfl⟩
  rw [hge] at HRO HGO ⊢
  have HGE := Lib.hid (show w.heap.size < ge by have := HG.out; have := HGO.out; omega)
  have HD10 := Lib.hid (HD9.out.below hb10 (Nat.lt_trans HGO.out HRO.out.lt))
  have HB10 := Lib.hid (nextB HB9.out (Nat.le_refl _) hb10)
  have HR10 := Lib.hid (HR9.out.below hb10 HR9.out.lt)
  have HRO10 := Lib.hid (HRO.out.below hb10 HRO.out.lt)
  clear hb10 hge HD9 HB9 HR9 HRO
  rcases (show z1 = 0 ∨ z1 = 1 ∨ z1 = 2 ∨ z1 = 3 by have := HZ1.out; omega) with hz | hz | hz | hz
  · -- none
    have HEQ := Lib.hid (rdEnt_eq H1.out H2.out H3.out (show rdTail b z1 z2 z3 a3 e3 = (O, a3, e3) from by unfold rdTail; rw [if_neg (by omega), if_neg (by omega), if_neg (by omega), HO.out]))
    rw [show entF (z1 : Int) = 0 by subst hz; rfl]
    clear hz
    go_wp2_with fail
    obtain ⟨X, hX⟩ : ∃ X : En, O = X := ⟨_, rfl⟩
    have HX := Lib.hid hX
    clear hX
    rw [HX.out] at HRO10 HOK HEQ
    obtain ⟨F, hF⟩ : ∃ F, rdEnd b a3 e3 = F := ⟨_, rfl⟩
    refine (End_any HD10.out).mono ?_
    rw [hF] at HEQ ⊢
    rintro r w20 ⟨rfl, _, hgr⟩
    have HRO2 := Lib.hid (row_grown HRO10.out hgr (by have := HGO.out; omega))
    have HB20 := Lib.hid (HB10.out.grown hgr HB10.out.size (fun q hq => by injection hq with hq; have := HG.out; omega))
    have HR20 := Lib.hid (row_grown HR10.out hgr (by have := HG.out; omega))
    clear hgr hF HRO10 HB10 HR10 HD10
    have HLD := Lib.hid (l_ent HRO2.out HOK.out)
    by_cases hE0 : F = 0
    · have hE1 : ((F : Int) != 0) = false := by subst hE0; rfl
      have HE0 := Lib.hid hE0
      clear hE0
      have HCK := Lib.hid (CheckEntry_any X HOK.out w20)
      obtain ⟨ov, hov⟩ : ∃ ov, X.val = ov := ⟨_, rfl⟩
      rw [hov] at HCK HLD
      go_wp2_with (first | (refine QB.wpList_ld 49 rfl rfl HLD.out (by kernel_rfl) ?_; clear HLD) | fail)
      refine HCK.out.mono ?_
      rintro r w21 ⟨rfl, hb21⟩
      subst hov
      have HBL := Lib.hid (nextB HB20.out (Nat.le_refl _) hb21)
      have HRL := Lib.hid (HR20.out.below hb21 HR20.out.lt)
      have HLD := Lib.hid (l_ent (HRO2.out.below hb21 HRO2.out.lt) HOK.out)
      clear hb21 HCK HR20 HB20
      by_cases hV : okE X = true
      · rw [show checkEntZ X = 0 from if_pos hV]
        rw [if_pos ⟨HE0.out, hV⟩] at HEQ
        clear hV
        go_wp2_with (first
        | (refine QB.wpList_ld 49 rfl rfl HLD.out rfl ?_; clear HLD)
        | (refine wpList_storeRow rfl 49 _ _ rfl rfl (cs := X.cs) rfl HRL.out (by kernel_rfl) (En.len HOK.out) (En.len zen_K) (En.one _) ?_
           refine QB.name fun V2 hV2 => ?_
           have R2 := Lib.hid (show Row V2 w.heap.size X.cs 49 from hV2 ▸ Row.setRow HRL.out _)
           have HBV := Lib.hid (show Below w.heap.size w V2 from hV2 ▸ below_setRow HBL.out (Nat.le_refl _) _)
           clear hV2)
        | fail)
        refine bodyPost_ret (results_ct (cs := X.cs) rfl rfl R2.out Try.underlying49 rfl (by kernel_rfl) (En.len HOK.out)) rfl ?_
        refine ⟨fun o ho => ?_, fun ho => ?_, HBV.out⟩
        · have ho2 := Option.some.inj (HEQ.out.symm.trans ho)
          rw [← ho2]
          unfold En.val
          rfl
        · exact absurd (HEQ.out.symm.trans ho) (by simp)
      · rw [show checkEntZ X = 2 from if_neg hV]
        rw [if_neg (fun h => hV h.2)] at HEQ
        clear hV HLD
        have HB0 := Lib.hid (build_ent0 w21)
        go_wp2_with (first
        | (refine wpList_bp rfl 49 _ rfl (ps := #[]) (by kernel_rfl) HB0.out ?_; clear HB0)
        | (refine wpList_storeRow rfl 49 _ _ rfl rfl (cs := zen.cs) rfl HRL.out (by kernel_rfl) (En.len zen_K) (En.len zen_K) (En.one _) ?_
           refine QB.name fun V2 hV2 => ?_
           have R2 := Lib.hid (show Row V2 w.heap.size zen.cs 49 from hV2 ▸ Row.setRow HRL.out _)
           have HBV := Lib.hid (show Below w.heap.size w V2 from hV2 ▸ below_setRow HBL.out (Nat.le_refl _) _)
           clear hV2)
        | fail)
        refine bodyPost_ret (results_ct (cs := zen.cs) rfl rfl R2.out Try.underlying49 rfl (by kernel_rfl) (En.len zen_K)) rfl ?_
        exact ⟨fun o ho => absurd (HEQ.out.symm.trans ho) (by simp), fun _ => (by unfold En.val; rfl), HBV.out⟩
    · have hE1 : ((F : Int) != 0) = true := by rw [bne_iff_ne]; omega
      have HBL := Lib.hid HB20.out
      have HRL := Lib.hid HR20.out
      rw [if_neg (fun h => hE0 h.1)] at HEQ
      clear hE0 HLD
      have HB0 := Lib.hid (build_ent0 w20)
      go_wp2_with (first
        | (refine wpList_bp rfl 49 _ rfl (ps := #[]) (by kernel_rfl) HB0.out ?_; clear HB0)
        | (refine wpList_storeRow rfl 49 _ _ rfl rfl (cs := zen.cs) rfl HRL.out (by kernel_rfl) (En.len zen_K) (En.len zen_K) (En.one _) ?_
           refine QB.name fun V2 hV2 => ?_
           have R2 := Lib.hid (show Row V2 w.heap.size zen.cs 49 from hV2 ▸ Row.setRow HRL.out _)
           have HBV := Lib.hid (show Below w.heap.size w V2 from hV2 ▸ below_setRow HBL.out (Nat.le_refl _) _)
           clear hV2)
        | fail)
      refine bodyPost_ret (results_ct (cs := zen.cs) rfl rfl R2.out Try.underlying49 rfl (by kernel_rfl) (En.len zen_K)) rfl ?_
      exact ⟨fun o ho => absurd (HEQ.out.symm.trans ho) (by simp), fun _ => (by unfold En.val; rfl), HBV.out⟩
  · -- an operation
    obtain ⟨m, a5, e5, h⟩ : ∃ x a e, rdBlock b a3 e3 = (x, a, e) := ⟨_, _, _, rfl⟩
    have H5 := Lib.hid h
    have HML := Lib.hid (show m.length ≤ 1048576 by have := block_len b a3 e3; rwa [h] at this)
    have HEQ := Lib.hid (rdEnt_eq H1.out H2.out H3.out (show rdTail b z1 z2 z3 a3 e3 = ({ O with op := (rdOpn m).getD (zop 0 0) }, a5, e5) from by unfold rdTail; rw [if_pos hz, h, HO.out]))
    rw [show entF (z1 : Int) = 1 by subst hz; rfl]
    clear hz h
    go_wp2_with fail
    refine (RBlock_any HD10.out).mono ?_
    rw [H5.out]
    rintro r w11 ⟨v11, rfl, ho, hr, hgr⟩
    have HD11 := Lib.hid hr
    have HB11 := Lib.hid (HB10.out.grown hgr HB10.out.size (fun q hq => by injection hq with hq; have := HG.out; omega))
    have HR11 := Lib.hid (row_grown HR10.out hgr (by have := HG.out; omega))
    have HRO11 := Lib.hid (row_grown HRO10.out hgr (by have := HGO.out; omega))
    obtain ⟨A11, n11, rfl⟩ := ho.shape
    have HOB := Lib.hid ho
    clear hr hgr HD10 HB10 HR10 HRO10 ho
    go_wp2_with fail
    refine (ReadOp_any _ m w11 HOB.out.bs (by have := HML.out; omega)).mono ?_
    rintro r w12 ⟨hs1, hs2, hb12⟩
    obtain ⟨o, ho⟩ : ∃ o, (rdOpn m).getD (zop 0 0) = o := ⟨_, rfl⟩
    have hor : o.ky.length = 32 ∧ ∃ c : Int, r = .returned (.tuple #[o.val, .int .i64 c]) := by
      cases hq : rdOpn m with
      | none =>
        rw [hq] at ho
        rw [← ho]
        exact ⟨zkey_len, 4, hs2 hq⟩
      | some o1 =>
        rw [hq] at ho
        rw [← ho]
        exact ⟨(rdOpn_bytes hq).2.2.1, 0, hs1 o1 hq⟩
    obtain ⟨hok, cc, rfl⟩ := hor
    rw [ho] at HEQ
    have HOQ := Lib.hid hok
    have HD12 := Lib.hid (HD11.out.below hb12 (rd_lt HD11.out))
    have HB12 := Lib.hid (nextB HB11.out (Nat.le_refl _) hb12)
    have HR12 := Lib.hid (HR11.out.below hb12 HR11.out.lt)
    have HRO12 := Lib.hid (HRO11.out.below hb12 HRO11.out.lt)
    obtain ⟨ow, how⟩ : ∃ v, o.val = v := ⟨_, rfl⟩
    have HOW := Lib.hid how
    rw [how]
    clear hs1 hs2 hb12 hok ho how HD11 HB11 HR11 HRO11 HOB
    go_wp2_with (first
      | (show wpList _ _ _ (⟨none, .store 30 (.tmp 29) (.tmp 27), _, _, _, _⟩ :: _) _ _
         refine Pol.wpList_storeSub rfl 30 (.tmp 29) (.tmp 27) rfl (cs := o.cs) rfl HOW.out.symm HRO12.out rfl (Opn.len HOQ.out) (by rw [En.len HOK.out, Opn.len HOQ.out]; decide) o.one ?_
         refine QB.name fun W13 hW => ?_
         have HRX := Lib.hid (show Row W13 ge { O with op := o }.cs 49 from hW ▸ sp_op HOK.out HOQ.out ▸ HRO12.out.setRow _)
         have hbg : Below ge w12 W13 := hW ▸ below_setRow (Below.refl _ w12) (Nat.le_refl _) _
         have HD13 := Lib.hid (HD12.out.below hbg HGO.out)
         have HB13 := Lib.hid (show Below w.heap.size w W13 from hW ▸ below_setRow HB12.out (Nat.le_of_lt HGE.out) _)
         have HR13 := Lib.hid (HR12.out.below hbg HGE.out)
         clear hW hbg HD12 HB12 HR12 HRO12)
      | fail)
    have HKX := Lib.hid (show ({ O with op := o } : En).K from ⟨HOQ.out, HOK.out.2⟩)
    obtain ⟨X, hX⟩ : ∃ X : En, { O with op := o } = X := ⟨_, rfl⟩
    have HX := Lib.hid hX
    clear hX
    rw [HX.out] at HRX HKX HEQ
    obtain ⟨F, hF⟩ : ∃ F, rdEnd b a5 e5 = F := ⟨_, rfl⟩
    refine (End_any HD13.out).mono ?_
    rw [hF] at HEQ ⊢
    rintro r w20 ⟨rfl, _, hgr⟩
    have HRO2 := Lib.hid (row_grown HRX.out hgr (by have := HGO.out; omega))
    have HB20 := Lib.hid (HB13.out.grown hgr HB13.out.size (fun q hq => by injection hq with hq; have := HG.out; omega))
    have HR20 := Lib.hid (row_grown HR13.out hgr (by have := HG.out; omega))
    clear hgr hF HRX HB13 HR13 HD13
    have HLD := Lib.hid (l_ent HRO2.out HKX.out)
    by_cases hE0 : F = 0
    · have hE1 : ((F : Int) != 0) = false := by subst hE0; rfl
      have HE0 := Lib.hid hE0
      clear hE0
      have HCK := Lib.hid (CheckEntry_any X HKX.out w20)
      obtain ⟨ov, hov⟩ : ∃ ov, X.val = ov := ⟨_, rfl⟩
      rw [hov] at HCK HLD
      go_wp2_with (first | (refine QB.wpList_ld 49 rfl rfl HLD.out (by kernel_rfl) ?_; clear HLD) | fail)
      refine HCK.out.mono ?_
      rintro r w21 ⟨rfl, hb21⟩
      subst hov
      have HBL := Lib.hid (nextB HB20.out (Nat.le_refl _) hb21)
      have HRL := Lib.hid (HR20.out.below hb21 HR20.out.lt)
      have HLD := Lib.hid (l_ent (HRO2.out.below hb21 HRO2.out.lt) HKX.out)
      clear hb21 HCK HR20 HB20
      by_cases hV : okE X = true
      · rw [show checkEntZ X = 0 from if_pos hV]
        rw [if_pos ⟨HE0.out, hV⟩] at HEQ
        clear hV
        go_wp2_with (first
        | (refine QB.wpList_ld 49 rfl rfl HLD.out rfl ?_; clear HLD)
        | (refine wpList_storeRow rfl 49 _ _ rfl rfl (cs := X.cs) rfl HRL.out (by kernel_rfl) (En.len HKX.out) (En.len zen_K) (En.one _) ?_
           refine QB.name fun V2 hV2 => ?_
           have R2 := Lib.hid (show Row V2 w.heap.size X.cs 49 from hV2 ▸ Row.setRow HRL.out _)
           have HBV := Lib.hid (show Below w.heap.size w V2 from hV2 ▸ below_setRow HBL.out (Nat.le_refl _) _)
           clear hV2)
        | fail)
        refine bodyPost_ret (results_ct (cs := X.cs) rfl rfl R2.out Try.underlying49 rfl (by kernel_rfl) (En.len HKX.out)) rfl ?_
        refine ⟨fun o ho => ?_, fun ho => ?_, HBV.out⟩
        · have ho2 := Option.some.inj (HEQ.out.symm.trans ho)
          rw [← ho2]
          unfold En.val
          rfl
        · exact absurd (HEQ.out.symm.trans ho) (by simp)
      · rw [show checkEntZ X = 2 from if_neg hV]
        rw [if_neg (fun h => hV h.2)] at HEQ
        clear hV HLD
        have HB0 := Lib.hid (build_ent0 w21)
        go_wp2_with (first
        | (refine wpList_bp rfl 49 _ rfl (ps := #[]) (by kernel_rfl) HB0.out ?_; clear HB0)
        | (refine wpList_storeRow rfl 49 _ _ rfl rfl (cs := zen.cs) rfl HRL.out (by kernel_rfl) (En.len zen_K) (En.len zen_K) (En.one _) ?_
           refine QB.name fun V2 hV2 => ?_
           have R2 := Lib.hid (show Row V2 w.heap.size zen.cs 49 from hV2 ▸ Row.setRow HRL.out _)
           have HBV := Lib.hid (show Below w.heap.size w V2 from hV2 ▸ below_setRow HBL.out (Nat.le_refl _) _)
           clear hV2)
        | fail)
        refine bodyPost_ret (results_ct (cs := zen.cs) rfl rfl R2.out Try.underlying49 rfl (by kernel_rfl) (En.len zen_K)) rfl ?_
        exact ⟨fun o ho => absurd (HEQ.out.symm.trans ho) (by simp), fun _ => (by unfold En.val; rfl), HBV.out⟩
    · have hE1 : ((F : Int) != 0) = true := by rw [bne_iff_ne]; omega
      have HBL := Lib.hid HB20.out
      have HRL := Lib.hid HR20.out
      rw [if_neg (fun h => hE0 h.1)] at HEQ
      clear hE0 HLD
      have HB0 := Lib.hid (build_ent0 w20)
      go_wp2_with (first
        | (refine wpList_bp rfl 49 _ rfl (ps := #[]) (by kernel_rfl) HB0.out ?_; clear HB0)
        | (refine wpList_storeRow rfl 49 _ _ rfl rfl (cs := zen.cs) rfl HRL.out (by kernel_rfl) (En.len zen_K) (En.len zen_K) (En.one _) ?_
           refine QB.name fun V2 hV2 => ?_
           have R2 := Lib.hid (show Row V2 w.heap.size zen.cs 49 from hV2 ▸ Row.setRow HRL.out _)
           have HBV := Lib.hid (show Below w.heap.size w V2 from hV2 ▸ below_setRow HBL.out (Nat.le_refl _) _)
           clear hV2)
        | fail)
      refine bodyPost_ret (results_ct (cs := zen.cs) rfl rfl R2.out Try.underlying49 rfl (by kernel_rfl) (En.len zen_K)) rfl ?_
      exact ⟨fun o ho => absurd (HEQ.out.symm.trans ho) (by simp), fun _ => (by unfold En.val; rfl), HBV.out⟩
  rotate_left
  · -- a number
    obtain ⟨z5, a5, e5, h⟩ : ∃ x a e, rdNumber b a3 e3 = (x, a, e) := ⟨_, _, _, rfl⟩
    have H5 := Lib.hid h
    clear h
    have HEQ := Lib.hid (rdEnt_eq H1.out H2.out H3.out (show rdTail b z1 z2 z3 a3 e3 = ({ O with sid := (z5 : Int) }, a5, e5) from by unfold rdTail; rw [if_neg (by omega), if_neg (by omega), if_pos hz, H5.out, HO.out]))
    rw [show entF (z1 : Int) = 2 by subst hz; rfl]
    clear hz
    go_wp2_with fail
    refine (RNumber_any HD10.out).mono ?_
    rw [H5.out]
    rintro r w11 ⟨rfl, hr, hgr⟩
    have HD11 := Lib.hid hr
    have HB11 := Lib.hid (HB10.out.grown hgr HB10.out.size (fun q hq => by injection hq with hq; have := HG.out; omega))
    have HR11 := Lib.hid (row_grown HR10.out hgr (by have := HG.out; omega))
    have HRO11 := Lib.hid (row_grown HRO10.out hgr (by have := HGO.out; omega))
    clear hr hgr HD10 HB10 HR10 HRO10
    have m40 := HRO11.out.cell (i := 40) (En.at40 HOK.out)
    have f40 := frozen_row HRO11.out 40
    go_wp2_with fail
    clear m40 f40
    refine calls_name fun W12 hW => ?_
    have HRO12 := Lib.hid (show Row W12 ge ({ O with sid := (z5 : Int) } : En).cs 49 from hW ▸ sp_sid HOK.out _ ▸ HRO11.out.set 40 _)
    have hbg : Below ge w11 W12 := hW ▸ (Below.refl _ w11).setCell (p := ⟨ge, 40, none⟩) (Nat.le_refl _) _
    have HD12 := Lib.hid (HD11.out.below hbg HGO.out)
    have HB12 := Lib.hid (show Below w.heap.size w W12 from hW ▸ HB11.out.setCell (p := ⟨ge, 40, none⟩) (Nat.le_of_lt HGE.out) _)
    have HR12 := Lib.hid (HR11.out.below hbg HGE.out)
    clear hW hbg HD11 HB11 HR11 HRO11
    have HKX := Lib.hid (show ({ O with sid := (z5 : Int) } : En).K from HOK.out)
    obtain ⟨X, hX⟩ : ∃ X : En, { O with sid := (z5 : Int) } = X := ⟨_, rfl⟩
    have HX := Lib.hid hX
    clear hX
    rw [HX.out] at HRO12 HKX HEQ
    obtain ⟨F, hF⟩ : ∃ F, rdEnd b a5 e5 = F := ⟨_, rfl⟩
    refine (End_any HD12.out).mono ?_
    rw [hF] at HEQ ⊢
    rintro r w20 ⟨rfl, _, hgr⟩
    have HRO2 := Lib.hid (row_grown HRO12.out hgr (by have := HGO.out; omega))
    have HB20 := Lib.hid (HB12.out.grown hgr HB12.out.size (fun q hq => by injection hq with hq; have := HG.out; omega))
    have HR20 := Lib.hid (row_grown HR12.out hgr (by have := HG.out; omega))
    clear hgr hF HRO12 HB12 HR12 HD12
    have HLD := Lib.hid (l_ent HRO2.out HKX.out)
    by_cases hE0 : F = 0
    · have hE1 : ((F : Int) != 0) = false := by subst hE0; rfl
      have HE0 := Lib.hid hE0
      clear hE0
      have HCK := Lib.hid (CheckEntry_any X HKX.out w20)
      obtain ⟨ov, hov⟩ : ∃ ov, X.val = ov := ⟨_, rfl⟩
      rw [hov] at HCK HLD
      go_wp2_with (first | (refine QB.wpList_ld 49 rfl rfl HLD.out (by kernel_rfl) ?_; clear HLD) | fail)
      refine HCK.out.mono ?_
      rintro r w21 ⟨rfl, hb21⟩
      subst hov
      have HBL := Lib.hid (nextB HB20.out (Nat.le_refl _) hb21)
      have HRL := Lib.hid (HR20.out.below hb21 HR20.out.lt)
      have HLD := Lib.hid (l_ent (HRO2.out.below hb21 HRO2.out.lt) HKX.out)
      clear hb21 HCK HR20 HB20
      by_cases hV : okE X = true
      · rw [show checkEntZ X = 0 from if_pos hV]
        rw [if_pos ⟨HE0.out, hV⟩] at HEQ
        clear hV
        go_wp2_with (first
        | (refine QB.wpList_ld 49 rfl rfl HLD.out rfl ?_; clear HLD)
        | (refine wpList_storeRow rfl 49 _ _ rfl rfl (cs := X.cs) rfl HRL.out (by kernel_rfl) (En.len HKX.out) (En.len zen_K) (En.one _) ?_
           refine QB.name fun V2 hV2 => ?_
           have R2 := Lib.hid (show Row V2 w.heap.size X.cs 49 from hV2 ▸ Row.setRow HRL.out _)
           have HBV := Lib.hid (show Below w.heap.size w V2 from hV2 ▸ below_setRow HBL.out (Nat.le_refl _) _)
           clear hV2)
        | fail)
        refine bodyPost_ret (results_ct (cs := X.cs) rfl rfl R2.out Try.underlying49 rfl (by kernel_rfl) (En.len HKX.out)) rfl ?_
        refine ⟨fun o ho => ?_, fun ho => ?_, HBV.out⟩
        · have ho2 := Option.some.inj (HEQ.out.symm.trans ho)
          rw [← ho2]
          unfold En.val
          rfl
        · exact absurd (HEQ.out.symm.trans ho) (by simp)
      · rw [show checkEntZ X = 2 from if_neg hV]
        rw [if_neg (fun h => hV h.2)] at HEQ
        clear hV HLD
        have HB0 := Lib.hid (build_ent0 w21)
        go_wp2_with (first
        | (refine wpList_bp rfl 49 _ rfl (ps := #[]) (by kernel_rfl) HB0.out ?_; clear HB0)
        | (refine wpList_storeRow rfl 49 _ _ rfl rfl (cs := zen.cs) rfl HRL.out (by kernel_rfl) (En.len zen_K) (En.len zen_K) (En.one _) ?_
           refine QB.name fun V2 hV2 => ?_
           have R2 := Lib.hid (show Row V2 w.heap.size zen.cs 49 from hV2 ▸ Row.setRow HRL.out _)
           have HBV := Lib.hid (show Below w.heap.size w V2 from hV2 ▸ below_setRow HBL.out (Nat.le_refl _) _)
           clear hV2)
        | fail)
        refine bodyPost_ret (results_ct (cs := zen.cs) rfl rfl R2.out Try.underlying49 rfl (by kernel_rfl) (En.len zen_K)) rfl ?_
        exact ⟨fun o ho => absurd (HEQ.out.symm.trans ho) (by simp), fun _ => (by unfold En.val; rfl), HBV.out⟩
    · have hE1 : ((F : Int) != 0) = true := by rw [bne_iff_ne]; omega
      have HBL := Lib.hid HB20.out
      have HRL := Lib.hid HR20.out
      rw [if_neg (fun h => hE0 h.1)] at HEQ
      clear hE0 HLD
      have HB0 := Lib.hid (build_ent0 w20)
      go_wp2_with (first
        | (refine wpList_bp rfl 49 _ rfl (ps := #[]) (by kernel_rfl) HB0.out ?_; clear HB0)
        | (refine wpList_storeRow rfl 49 _ _ rfl rfl (cs := zen.cs) rfl HRL.out (by kernel_rfl) (En.len zen_K) (En.len zen_K) (En.one _) ?_
           refine QB.name fun V2 hV2 => ?_
           have R2 := Lib.hid (show Row V2 w.heap.size zen.cs 49 from hV2 ▸ Row.setRow HRL.out _)
           have HBV := Lib.hid (show Below w.heap.size w V2 from hV2 ▸ below_setRow HBL.out (Nat.le_refl _) _)
           clear hV2)
        | fail)
      refine bodyPost_ret (results_ct (cs := zen.cs) rfl rfl R2.out Try.underlying49 rfl (by kernel_rfl) (En.len zen_K)) rfl ?_
      exact ⟨fun o ho => absurd (HEQ.out.symm.trans ho) (by simp), fun _ => (by unfold En.val; rfl), HBV.out⟩
  · -- a session
    obtain ⟨z5, a5, e5, h⟩ : ∃ x a e, rdNumber b a3 e3 = (x, a, e) := ⟨_, _, _, rfl⟩
    have H5 := Lib.hid h
    clear h
    obtain ⟨z6, a6, e6, h⟩ : ∃ x a e, rdUpto b a5 e5 65536 = (x, a, e) := ⟨_, _, _, rfl⟩
    have H6 := Lib.hid h
    have hw6 := wrap_i64n z6 (by have := RdP.upto_le b a5 e5 65536; rw [h] at this; omega)
    clear h
    obtain ⟨y, a7, e7, h⟩ : ∃ x a e, rdFixed b a6 e6 32 = (x, a, e) := ⟨_, _, _, rfl⟩
    have H7 := Lib.hid h
    have HYL := Lib.hid (show y.length ≤ 32 by have := fixed_len32 b a6 e6; rwa [h] at this)
    clear h
    have HEQ := Lib.hid (rdEnt_eq H1.out H2.out H3.out (show rdTail b z1 z2 z3 a3 e3 = ({ O with sid := (z5 : Int), peer := (z6 : Int), sec := padTo 32 y }, a7, e7) from by
      unfold rdTail
      rw [if_neg (by omega), if_pos hz, H5.out]
      dsimp only
      rw [H6.out]
      dsimp only
      rw [H7.out, HO.out]))
    rw [show entF (z1 : Int) = 14 by subst hz; rfl]
    clear hz
    go_wp2_with fail
    refine (RNumber_any HD10.out).mono ?_
    rw [H5.out]
    rintro r w11 ⟨rfl, hr, hgr⟩
    have HD11 := Lib.hid hr
    have HB11 := Lib.hid (HB10.out.grown hgr HB10.out.size (fun q hq => by injection hq with hq; have := HG.out; omega))
    have HR11 := Lib.hid (row_grown HR10.out hgr (by have := HG.out; omega))
    have HRO11 := Lib.hid (row_grown HRO10.out hgr (by have := HGO.out; omega))
    clear hr hgr HD10 HB10 HR10 HRO10
    have m40 := HRO11.out.cell (i := 40) (En.at40 HOK.out)
    have f40 := frozen_row HRO11.out 40
    go_wp2_with fail
    clear m40 f40
    refine calls_name fun W12 hW => ?_
    have HRO12 := Lib.hid (show Row W12 ge ({ O with sid := (z5 : Int) } : En).cs 49 from hW ▸ sp_sid HOK.out _ ▸ HRO11.out.set 40 _)
    have hbg : Below ge w11 W12 := hW ▸ (Below.refl _ w11).setCell (p := ⟨ge, 40, none⟩) (Nat.le_refl _) _
    have HD12 := Lib.hid (HD11.out.below hbg HGO.out)
    have HB12 := Lib.hid (show Below w.heap.size w W12 from hW ▸ HB11.out.setCell (p := ⟨ge, 40, none⟩) (Nat.le_of_lt HGE.out) _)
    have HR12 := Lib.hid (HR11.out.below hbg HGE.out)
    clear hW hbg HD11 HB11 HR11 HRO11
    have HK1 := Lib.hid (show ({ O with sid := (z5 : Int) } : En).K from HOK.out)
    refine (Upto_any 65536 HD12.out).mono ?_
    rw [H6.out]
    rintro r w13 ⟨rfl, hr, hgr⟩
    have HD13 := Lib.hid hr
    have HB13 := Lib.hid (HB12.out.grown hgr HB12.out.size (fun q hq => by injection hq with hq; have := HG.out; omega))
    have HR13 := Lib.hid (row_grown HR12.out hgr (by have := HG.out; omega))
    have HRO13 := Lib.hid (row_grown HRO12.out hgr (by have := HGO.out; omega))
    clear hr hgr HD12 HB12 HR12 HRO12
    have m41 := HRO13.out.cell (i := 41) (En.at41 HK1.out)
    have f41 := frozen_row HRO13.out 41
    go_wp2_with fail
    clear m41 f41
    refine QB.code_name fun W14 hW => ?_
    have HRO14 := Lib.hid (show Row W14 ge ({ O with sid := (z5 : Int), peer := (z6 : Int) } : En).cs 49 from hW ▸ sp_peer HK1.out _ ▸ HRO13.out.set 41 _)
    have hbg : Below ge w13 W14 := hW ▸ (Below.refl _ w13).setCell (p := ⟨ge, 41, none⟩) (Nat.le_refl _) _
    have HD14 := Lib.hid (HD13.out.below hbg HGO.out)
    have HB14 := Lib.hid (show Below w.heap.size w W14 from hW ▸ HB13.out.setCell (p := ⟨ge, 41, none⟩) (Nat.le_of_lt HGE.out) _)
    have HR14 := Lib.hid (HR13.out.below hbg HGE.out)
    clear hW hbg HD13 HB13 HR13 HRO13
    have HK2 := Lib.hid (show ({ O with sid := (z5 : Int), peer := (z6 : Int) } : En).K from HOK.out)
    have HSC := Lib.hid (show ({ O with sid := (z5 : Int), peer := (z6 : Int) } : En).sec = zkey by rw [HO.out])
    have HGW := Lib.hid (show ge < W14.heap.size from HRO14.out.lt)
    refine ByL.marks mixed RdL.TT (geF ge) (fun s x => (s = 0 → x = W14.drew) ∧ (s = 1 → Rd x V.heap.size g b a7 e7 ∧ W14.drew.grownBy x (some g)) ∧ (s = 2 → Rd x V.heap.size g b a7 e7 ∧ Row x ge ({ O with sid := (z5 : Int), peer := (z6 : Int), sec := padTo 32 y } : En).cs 49 ∧ Row x w.heap.size zen.cs 49 ∧ Below w.heap.size w x)) 2 [
        ByL.is (.pointer (some ⟨ge, 40, none⟩)) none,
        ByL.is (.pointer (some ⟨ge, 42, none⟩)) none,
        ByL.is (.slice (some ⟨ge, 42, none⟩) 32 32) none,
        ByL.is (.pointer (some ⟨g, 0, none⟩)) none,
        fixM ge W14.heap.size y HGW.out,
        ByL.isN (some 1)]
        (Ev.masks _ []) (by kernel_rfl) rfl (by kernel_rfl) (fun _ => trivial) (fun _ _ _ _ _ => trivial) (geF.refl ge) ⟨fun _ => rfl, (fun e => by cases e), (fun e => by cases e)⟩ ⟨?_, ?_, ?_, ?_, ?_, ?_, trivial⟩ ?_
    · intro a w9 s ht hR hk1 hk2 hs hg
      have h5 : a.tmps.getD 5 undef = .pointer (some ⟨ge, 0, none⟩) := By.same_get hs 5 (by decide) (by kernel_rfl)
      refine ByL.yes rfl ?_
      clear hs hg hk1 hk2
      have HR := Lib.hid hR
      clear hR
      go_simp
      exact ⟨_, rfl, trivial, geF.refl _ _ _, HR.out, rfl⟩
    · intro a w9 s ht hR hk1 hk2 hs hg
      have h48 : a.tmps.getD 48 undef = _ := ByN.given_get hg 0 rfl rfl (by kernel_rfl)
      refine ByL.yes rfl ?_
      clear hs hg hk1 hk2
      have HR := Lib.hid hR
      clear hR
      go_simp
      exact ⟨_, rfl, trivial, geF.refl _ _ _, HR.out, rfl⟩
    · intro a w9 s ht hR hk1 hk2 hs hg
      have h49 : a.tmps.getD 49 undef = _ := ByN.given_get hg 1 rfl rfl (by kernel_rfl)
      refine ByL.yes rfl ?_
      clear hs hg hk1 hk2
      have HR := Lib.hid hR
      clear hR
      go_simp
      exact ⟨_, rfl, trivial, geF.refl _ _ _, HR.out, rfl⟩
    · intro a w9 s ht hR hk1 hk2 hs hg
      have h4 : a.tmps.getD 4 undef = .pointer (some ⟨g, 0, none⟩) := By.same_get hs 4 (by decide) (by kernel_rfl)
      refine ByL.yes rfl ?_
      clear hs hg hk1 hk2
      have HR := Lib.hid hR
      clear hR
      go_simp
      exact ⟨_, rfl, trivial, geF.refl _ _ _, HR.out, rfl⟩
    · intro a w9 s ht hR hk1 hk2 hs hg
      obtain rfl := hk1 0 rfl
      have h51 : a.tmps.getD 51 undef = _ := ByN.given_get hg 3 rfl rfl (by kernel_rfl)
      refine ByL.yes rfl ?_
      clear hs hg hk1 hk2
      have hw9 : w9 = W14.drew := hR.1 rfl
      subst hw9
      have HFx := Lib.hid (Fixed_any 32 HD14.out.drew)
      rw [H7.out] at HFx
      clear hR ht
      go_simp
      refine HFx.out.mono ?_
      rintro r w10 ⟨v10, rfl, ho, hr, hgr⟩
      exact ⟨_, rfl, trivial, (fun e => by omega), ⟨(fun e => by cases e), (fun _ => ⟨hr, hgr⟩), (fun e => by cases e)⟩, ho⟩
    · intro a w9 s ht hR hk1 hk2 hs hg
      obtain rfl := hk1 1 rfl
      have h50 : a.tmps.getD 50 undef = _ := ByN.given_get hg 2 rfl rfl (by kernel_rfl)
      have h52 : Own w9 W14.heap.size (a.tmps.getD 52 undef) y := ByN.given_get hg 4 rfl rfl (by kernel_rfl)
      refine ByL.yes rfl ?_
      clear hs hg hk1 hk2
      obtain ⟨hr, hgr⟩ := hR.2.1 rfl
      have hrow : Row w9 ge ({ O with sid := (z5 : Int), peer := (z6 : Int) } : En).cs 49 := row_grown (w := W14.drew) HRO14.out hgr (by have := HGO.out; omega)
      refine op_copy_at 32 42 (.tmp 50) (.tmp 52) rfl h50 rfl h52.bs HYL.out hrow (by rw [En.len HK2.out]; have := HYL.out; omega) ?_
      intro w10 hr10 hg10
      rw [sp_sec HK2.out HSC.out HYL.out] at hr10
      have hb9 : Below w.heap.size w w9 := (HB14.out.drew).grown hgr HB14.out.size (fun q hq => by injection hq with hq; have := HG.out; omega)
      exact ⟨_, rfl, trivial, (fun _ => hg10), ⟨(fun e => by cases e), (fun e => by cases e), (fun _ => ⟨hr.grown hg10 (fun k hk => by injection hk with hk; have := HGO.out; omega), hr10, row_grown (row_grown (w := W14.drew) HR14.out hgr (by have := HG.out; omega)) hg10 (by have := HGE.out; omega), hb9.grown hg10 hb9.size (fun q hq => by injection hq with hq; have := HGE.out; omega)⟩)⟩, trivial⟩
    refine ByL.ends_is (ByL.ends_is (ByL.ends_is (ByL.ends_is (ByL.ends_skip fun v52 => (ByL.ends_skip fun v53 => ByL.ends_nil fun w15 hw15 => ?_)))))
    try simp only [Act.put, List.setIfInBounds_toArray, List.set_cons_succ, List.set_cons_zero]
    try simp only [List.drop_succ_cons, List.drop_zero]
    obtain ⟨_, _, _, hw15⟩ := hw15
    obtain ⟨hd15, hro15, hr15, hb15⟩ := hw15 rfl
    have HD15 := Lib.hid hd15
    have HRO15 := Lib.hid hro15
    have HR15 := Lib.hid hr15
    have HB15 := Lib.hid hb15
    clear hd15 hro15 hr15 hb15 hw15 HD14 HRO14 HR14 HB14 HK1 HK2 HSC H7
    have HKX := Lib.hid (show ({ O with sid := (z5 : Int), peer := (z6 : Int), sec := padTo 32 y } : En).K from ⟨HOK.out.1, padTo_length HYL.out⟩)
    go_wp2_with fail
    obtain ⟨X, hX⟩ : ∃ X : En, { O with sid := (z5 : Int), peer := (z6 : Int), sec := padTo 32 y } = X := ⟨_, rfl⟩
    have HX := Lib.hid hX
    clear hX
    rw [HX.out] at HRO15 HKX HEQ
    obtain ⟨F, hF⟩ : ∃ F, rdEnd b a7 e7 = F := ⟨_, rfl⟩
    refine (End_any HD15.out).mono ?_
    rw [hF] at HEQ ⊢
    rintro r w20 ⟨rfl, _, hgr⟩
    have HRO2 := Lib.hid (row_grown HRO15.out hgr (by have := HGO.out; omega))
    have HB20 := Lib.hid (HB15.out.grown hgr HB15.out.size (fun q hq => by injection hq with hq; have := HG.out; omega))
    have HR20 := Lib.hid (row_grown HR15.out hgr (by have := HG.out; omega))
    clear hgr hF HRO15 HB15 HR15 HD15
    have HLD := Lib.hid (l_ent HRO2.out HKX.out)
    by_cases hE0 : F = 0
    · have hE1 : ((F : Int) != 0) = false := by subst hE0; rfl
      have HE0 := Lib.hid hE0
      clear hE0
      have HCK := Lib.hid (CheckEntry_any X HKX.out w20)
      obtain ⟨ov, hov⟩ : ∃ ov, X.val = ov := ⟨_, rfl⟩
      rw [hov] at HCK HLD
      go_wp2_with (first | (refine QB.wpList_ld 49 rfl rfl HLD.out (by kernel_rfl) ?_; clear HLD) | fail)
      refine HCK.out.mono ?_
      rintro r w21 ⟨rfl, hb21⟩
      subst hov
      have HBL := Lib.hid (nextB HB20.out (Nat.le_refl _) hb21)
      have HRL := Lib.hid (HR20.out.below hb21 HR20.out.lt)
      have HLD := Lib.hid (l_ent (HRO2.out.below hb21 HRO2.out.lt) HKX.out)
      clear hb21 HCK HR20 HB20
      by_cases hV : okE X = true
      · rw [show checkEntZ X = 0 from if_pos hV]
        rw [if_pos ⟨HE0.out, hV⟩] at HEQ
        clear hV
        go_wp2_with (first
        | (refine QB.wpList_ld 49 rfl rfl HLD.out rfl ?_; clear HLD)
        | (refine wpList_storeRow rfl 49 _ _ rfl rfl (cs := X.cs) rfl HRL.out (by kernel_rfl) (En.len HKX.out) (En.len zen_K) (En.one _) ?_
           refine QB.name fun V2 hV2 => ?_
           have R2 := Lib.hid (show Row V2 w.heap.size X.cs 49 from hV2 ▸ Row.setRow HRL.out _)
           have HBV := Lib.hid (show Below w.heap.size w V2 from hV2 ▸ below_setRow HBL.out (Nat.le_refl _) _)
           clear hV2)
        | fail)
        refine bodyPost_ret (results_ct (cs := X.cs) rfl rfl R2.out Try.underlying49 rfl (by kernel_rfl) (En.len HKX.out)) rfl ?_
        refine ⟨fun o ho => ?_, fun ho => ?_, HBV.out⟩
        · have ho2 := Option.some.inj (HEQ.out.symm.trans ho)
          rw [← ho2]
          unfold En.val
          rfl
        · exact absurd (HEQ.out.symm.trans ho) (by simp)
      · rw [show checkEntZ X = 2 from if_neg hV]
        rw [if_neg (fun h => hV h.2)] at HEQ
        clear hV HLD
        have HB0 := Lib.hid (build_ent0 w21)
        go_wp2_with (first
        | (refine wpList_bp rfl 49 _ rfl (ps := #[]) (by kernel_rfl) HB0.out ?_; clear HB0)
        | (refine wpList_storeRow rfl 49 _ _ rfl rfl (cs := zen.cs) rfl HRL.out (by kernel_rfl) (En.len zen_K) (En.len zen_K) (En.one _) ?_
           refine QB.name fun V2 hV2 => ?_
           have R2 := Lib.hid (show Row V2 w.heap.size zen.cs 49 from hV2 ▸ Row.setRow HRL.out _)
           have HBV := Lib.hid (show Below w.heap.size w V2 from hV2 ▸ below_setRow HBL.out (Nat.le_refl _) _)
           clear hV2)
        | fail)
        refine bodyPost_ret (results_ct (cs := zen.cs) rfl rfl R2.out Try.underlying49 rfl (by kernel_rfl) (En.len zen_K)) rfl ?_
        exact ⟨fun o ho => absurd (HEQ.out.symm.trans ho) (by simp), fun _ => (by unfold En.val; rfl), HBV.out⟩
    · have hE1 : ((F : Int) != 0) = true := by rw [bne_iff_ne]; omega
      have HBL := Lib.hid HB20.out
      have HRL := Lib.hid HR20.out
      rw [if_neg (fun h => hE0 h.1)] at HEQ
      clear hE0 HLD
      have HB0 := Lib.hid (build_ent0 w20)
      go_wp2_with (first
        | (refine wpList_bp rfl 49 _ rfl (ps := #[]) (by kernel_rfl) HB0.out ?_; clear HB0)
        | (refine wpList_storeRow rfl 49 _ _ rfl rfl (cs := zen.cs) rfl HRL.out (by kernel_rfl) (En.len zen_K) (En.len zen_K) (En.one _) ?_
           refine QB.name fun V2 hV2 => ?_
           have R2 := Lib.hid (show Row V2 w.heap.size zen.cs 49 from hV2 ▸ Row.setRow HRL.out _)
           have HBV := Lib.hid (show Below w.heap.size w V2 from hV2 ▸ below_setRow HBL.out (Nat.le_refl _) _)
           clear hV2)
        | fail)
      refine bodyPost_ret (results_ct (cs := zen.cs) rfl rfl R2.out Try.underlying49 rfl (by kernel_rfl) (En.len zen_K)) rfl ?_
      exact ⟨fun o ho => absurd (HEQ.out.symm.trans ho) (by simp), fun _ => (by unfold En.val; rfl), HBV.out⟩
end Go.Proofs.Ytedmogacklbcmaa.Wir
