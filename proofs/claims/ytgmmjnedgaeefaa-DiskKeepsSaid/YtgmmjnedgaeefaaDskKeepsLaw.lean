/- What was synced before a crash is there after it: 'drawbridgelaw12.DiskKeeps', for every argument. -/
import Derived.Test.YtgmmjnedgaeefaaDskMaps
import Derived.Test.YtgmmjnedgaeefaaDskFiles
import Derived.Test.YtgmmjnedgaeefaaDskInts
import Derived.Test.YtgmmjnedgaeefaaDskLives
import Derived.Test.YtgmmjnedgaeefaaDskSmall
import Derived.Test.YtgmmjnedgaeefaaLawSized
namespace Go.Proofs.Ytgmmjnedgaeefaa.diskKeeps
open Go.ChangeShapes Go.WideShapes Go.ChangeAt Go.RowKit
open Dsk
theorem own : ownKnob Try.checked.prog.godebug = none := by kernel_rfl
theorem laid : laidOutB Try.checked.prog = true := by kernel_rfl
theorem New_ex (room : Int) (h0 : 0 ≤ room) (h1 : room ≤ 16777216) (w : World) : Calls Try.prog 8 #[.int .i64 room] w fun e w' => ∃ p L, e = .returned (.tuple #[pv p, .int .i64 0]) ∧ At w' w.heap.size L p ⟨[], room, false, -1⟩ ∧ Below w.heap.size w w' :=
  (New_ok room h0 h1 w).mono fun _ _ ⟨h2, h3, h4⟩ => ⟨_, _, h2, h3, h4⟩
theorem key_len {w : World} {B : Nat} {L : Lab} {p : Nat} {d : Dk} (h : At w B L p d) : ∀ s ∈ keys d.files, s.length ≤ maxLen := by
  intro s hs
  obtain ⟨_, _, m, D, _, _, hf⟩ := h
  have h1 := (hf.perm.mem_iff (a := s)).1 hs
  obtain ⟨es, hD, hk⟩ := hf.map.keysOf
  subst hD
  obtain ⟨p, hp, hps⟩ := List.mem_map.1 h1
  obtain ⟨v, hv⟩ := hk p hp
  obtain ⟨x, _, hx, hxl⟩ := Maps.keyOf_str Try.underlying9 hv
  rw [hx] at hps
  have : x = s := hps
  subst this
  exact hxl
/-- What holds of the disk at every round. -/
structure Inv (d : Dk) (i : Nat) : Prop where
  sum : d.left + (total d.files : Int) = 5000
  left : 0 ≤ d.left
  num : d.files.length ≤ i
  fuse : in64 d.fuse
theorem Inv.fits {d : Dk} {i : Nat} (h : Inv d i) (hi : i ≤ 1000000) : Fits d :=
  ⟨by have := h.sum; have := h.left; omega, by have := h.num; omega, ⟨h.fuse.2, h.fuse.1⟩, by have := h.sum; have := h.left; omega⟩
theorem begD_in (ok : Bool) (d : Dk) (h : in64 d.fuse) : in64 (begD ok d).fuse := by
  unfold begD
  unfold in64 at *
  repeat' split
  all_goals first | exact h | (simp only; omega)
theorem Inv.next {d : Dk} {i : Nat} (h : Inv d i) (hn : (keys d.files).Nodup) (k : Int) (a : Ac) : Inv (opD k d a) (i + 1) := by
  have h1 := opD_sum k d a hn
  have h2 := opD_len k d a
  refine ⟨by rw [h1.1]; exact h.sum, h1.2 h.left, by have := h.num; omega, ?_⟩
  rw [(opD_fuse k d a).1]
  exact begD_in _ _ h.fuse
theorem Inv.more {d : Dk} {i : Nat} (h : Inv d i) : Inv d (i + 1) := ⟨h.sum, h.left, by have := h.num; omega, h.fuse⟩
theorem ba_app (x y : Name) : ({ data := x.toArray } : ByteArray) ++ { data := y.toArray } = { data := (x ++ y).toArray } := by
  apply ByteArray.ext
  simp
theorem dN (w : World) (n : Nat) : Below w.heap.size w (w.drewN n) := ⟨rfl, rfl, rfl, Nat.le_refl _, fun _ _ => rfl⟩
theorem SMget {w : World} {m n : Nat} {f : Name → Option Name} (h : SM w m n f) (s : Name) (hs : s.length ≤ maxLen) (x : Name) (hx : (f s).getD [] = x) :
    (Instr.lookup 49 (.map (some m)) (.string { data := s.toArray }) false).run Try.prog w = .ok (.string { data := x.toArray }) w := by
  rw [← hx]
  exact h.get s hs
theorem wpList_len0 {w : World} {ops : Array Oper} {rest : List Oper} {o : Oper} {a : Act} {Q : Exit → Act → World → Prop} (hg : o.guard = none) (mo : Operand) (hop : o.op = Op.call { callee := Callee.builtin Builtin.len, args := #[mo], argTypes := #[49] })
    {m n : Nat} {f : Name → Option Name} (h : SM w m n f) (h0 : ∀ t, f t = none) (hm : a.eval mo = .map (some m)) (hK : wpList Try.prog ops Q rest (a.put o.dst (.int .i64 0)) w) : wpList Try.prog ops Q (o :: rest) a w := by
  refine wpList_plain hg fun K hK' => ?_
  unfold Oper.wp execOp
  simp only [hop, resolve, invoke, builtin, Sem.run_bind, Sem.run_pure, Result.andThen_ok, List.map_toArray, List.map_cons, List.map_nil, hm, h.len0 h0]
  exact hK' _ _ hK
theorem ba_take (all : List UInt8) (n : Nat) : (({ data := all.toArray } : ByteArray).extract 0 n).toList = all.take n := by
  have h : (({ data := all.toArray } : ByteArray).extract 0 n) = { data := (all.take n).toArray } := by
    apply ByteArray.ext
    simp
  rw [h]
  simp
theorem allOf_len (l : Fs) (s : Name) : ((allOf l s).getD []).length ≤ total l := by
  unfold allOf
  cases h : Dsk.look l s with
  | none => simp
  | some F => have := mem_total (look_some h); simpa using this
theorem SMmore {w : World} {m n n' : Nat} {f : Name → Option Name} (h : SM w m n f) (hn : n ≤ n') : SM w m n' f := by
  obtain ⟨D, h1, h2⟩ := h
  exact ⟨D, h1.mono hn, h2⟩
set_option maxRecDepth 100000 in
set_option maxHeartbeats 8000000 in
theorem walk {w : World} {v vp : Value} {l : List Ac} {f : Int} {parts : List Int} (h : Acs w w.heap.size v l) (hl : l.length ≤ maxLen) (hf : in64 f) (hp : IsL w w.heap.size vp parts) (hal : ∀ a ∈ l, a.name.length ≤ maxLen ∧ a.b.length ≤ 140737488355327) :
    Calls Try.prog 5 #[v, .int .i64 f, vp] w fun e w' => e = .returned (.bool true) ∧ Below w.heap.size w w' := by
  obtain ⟨A, c, rfl, hc, _⟩ := id h
  obtain ⟨Ap, cp, rfl, hcp, _⟩ := id hp
  have Hac := Lib.hid h
  have Hl := Lib.hid hl
  have Hf := Lib.hid hf
  have Hp := Lib.hid hp
  have Hal := Lib.hid hal
  clear h hl hf hp hal hc hcp
  cases hs : smallB l with
  | false =>
    go_enter Try.func5, Try.ntmps5
    go_wp2_with (first
      | (go_at_call 13; refine (lives_any _).mono ?_; rintro e w1 ⟨rfl, hb⟩; have HB1 := Lib.hid hb; clear hb)
      | (go_at_call 8; refine (New_ex 5000 (by decide) (by decide) _).mono ?_; rintro e w2 ⟨p, L, rfl, _, hb⟩; have HB2 := Lib.hid (nextB HB1.out (Nat.le_refl _) hb); clear hb; unfold pv)
      | (go_at_call 18; refine (small_any ((Hac.out.below HB2.out).more HB2.out.size) Hl.out).mono ?_; rintro e w4 ⟨rfl, hb⟩; have HB4 := Lib.hid (nextB HB2.out (Nat.le_refl _) hb); clear hb)
      | fail)
    go_ret
    exact ⟨rfl, HB4.out⟩
  | true =>
  by_cases hpl : 100 < (parts.length : Int)
  · go_enter Try.func5, Try.ntmps5
    go_wp2_with (first
      | (go_at_call 13; refine (lives_any _).mono ?_; rintro e w1 ⟨rfl, hb⟩; have HB1 := Lib.hid hb; clear hb)
      | (go_at_call 8; refine (New_ex 5000 (by decide) (by decide) _).mono ?_; rintro e w2 ⟨p, L, rfl, _, hb⟩; have HB2 := Lib.hid (nextB HB1.out (Nat.le_refl _) hb); clear hb; unfold pv)
      | (go_at_call 18; refine (small_any ((Hac.out.below HB2.out).more HB2.out.size) Hl.out).mono ?_; rintro e w4 ⟨rfl, hb⟩; have HB4 := Lib.hid (nextB HB2.out (Nat.le_refl _) hb); clear hb)
      | fail)
    go_ret
    exact ⟨rfl, HB4.out⟩
  · have hmk : ∀ W : World, (Instr.makeMap 49 none).run Try.prog W = .ok (.map (some W.heap.size)) (W.alloc (.map #[] 0)) := fun W => rfl
    go_enter Try.func5, Try.ntmps5
    go_wp2_with (first
      | (go_at_call 13; refine (lives_any _).mono ?_; rintro e w1 ⟨rfl, hb⟩; have HB1 := Lib.hid hb; clear hb)
      | (go_at_call 8; refine (New_ex 5000 (by decide) (by decide) _).mono ?_; rintro e w2 ⟨p, L, rfl, hat, hb⟩; have HB2 := Lib.hid (nextB HB1.out (Nat.le_refl _) hb); have HA2 := Lib.hid hat; clear hat hb; unfold pv)
      | (go_at_call 18; refine (small_any ((Hac.out.below HB2.out).more HB2.out.size) Hl.out).mono ?_; rintro e w3 ⟨rfl, hb⟩; have HB3 := Lib.hid (nextB HB2.out (Nat.le_refl _) hb); have HA3 := Lib.hid (HA2.out.new hb); clear hb HA2)
      | (go_at_call 16; refine (Fuse_at HA3.out f).mono ?_; rintro e w4 ⟨rfl, hat, hst⟩; have HA4 := Lib.hid hat; have HB4 := Lib.hid (HB3.out.trans ((hst.below HA3.out).mono HB1.out.size)); clear hat hst HA3)
      | fail)
    have HA5 := Lib.hid ((HA4.out.new ((Below.refl w4.heap.size w4).alloc (Nat.le_refl _) (Obj.map #[] 0))).new ((Below.refl _ (w4.alloc (Obj.map #[] 0))).alloc (Nat.le_refl _) (Obj.map #[] 0)))
    have HSb : Hid (SM ((w4.alloc (Obj.map #[] 0)).alloc (Obj.map #[] 0)) w4.heap.size 0 (allOf [])) := by
      have h1 := ((SM.made w4).below ((Below.refl _ (w4.alloc (Obj.map #[] 0))).alloc (Nat.le_refl _) (Obj.map #[] 0))).cong (g := allOf []) fun _ => rfl
      exact h1
    have HSs : Hid (SM ((w4.alloc (Obj.map #[] 0)).alloc (Obj.map #[] 0)) (w4.heap.size + 1) 0 (synOf [])) := by
      have h1 := (SM.made (w4.alloc (Obj.map #[] 0))).cong (g := synOf []) fun _ => rfl
      have h2 : (w4.alloc (Obj.map #[] 0)).heap.size = w4.heap.size + 1 := by simp
      rw [h2] at h1
      exact h1
    have HB5 := Lib.hid ((HB4.out.alloc HB4.out.size (Obj.map #[] 0)).alloc (by have := HB4.out.size; simp; omega) (Obj.map #[] 0))
    have HLn : Hid (∀ b, w4.heap.size ≤ b → L b = none) := fun b hb => by
      cases hL : L b with
      | none => rfl
      | some x => have := (HA4.out.lab b (by rw [hL]; simp)).2; omega
    have Hwm : Hid (w.heap.size ≤ w4.heap.size) := by
      have := HB4.out.size
      exact this
    have HwB := Lib.hid (HB1.out.size)
    obtain ⟨B1, hB1⟩ : ∃ B1, w1.heap.size = B1 := ⟨_, rfl⟩
    rw [hB1] at HA5 HwB
    obtain ⟨W, hW⟩ : ∃ W, (w4.alloc (Obj.map #[] 0)).alloc (Obj.map #[] 0) = W := ⟨_, rfl⟩
    obtain ⟨mb, hmb⟩ : ∃ mb, w4.heap.size = mb := ⟨_, rfl⟩
    have hmb1 : (w4.alloc (Obj.map #[] 0)).heap.size = mb + 1 := by rw [← hmb]; simp
    rw [hW] at HA5 HSb HSs HB5 ⊢
    rw [hmb] at HSb HSs HLn Hwm ⊢
    clear hW hmb hB1 HB2 HB3 HB4 HA4 HB1
    have hl100 : l.length ≤ 100 := by
      have h1 := hs
      simp only [smallB, Bool.and_eq_true, decide_eq_true_eq] at h1
      exact h1.1
    go_loopw [11] (fun iv wr => ∃ (i : Nat) (Li : Lab) (d : Dk), i ≤ l.length ∧ iv = .int .i64 (i : Int) ∧ At wr B1 Li p d ∧ Inv d i ∧ SM wr mb i (allOf d.files) ∧ SM wr (mb + 1) i (synOf d.files) ∧ Li mb = none ∧ Li (mb + 1) = none ∧ Below w.heap.size w wr) (fun iv _ => l.length - (intOf iv).toNat)
    case atStart => exact ⟨0, L, _, Nat.zero_le _, rfl, HA5.out, ⟨by simp [total], (by decide : (0 : Int) ≤ 5000), Nat.zero_le _, Hf.out⟩, HSb.out, HSs.out, HLn.out _ (Nat.le_refl _), HLn.out _ (by omega), HB5.out⟩
    case round =>
      obtain ⟨i, Li, d, hi, rfl, hat, hinv, hsb, hss, hlb, hls, hb⟩ := hrel
      have HA := Lib.hid hat
      have Inv0 := Lib.hid hinv
      have Sb := Lib.hid hsb
      have Ss := Lib.hid hss
      have Lb := Lib.hid hlb
      have Ls := Lib.hid hls
      have HB := Lib.hid hb
      clear hat hinv hsb hss hlb hls hb HA5 HSb HSs HB5
      by_cases h1 : i < l.length
      · have h1' : (i : Int) < (l.length : Int) := by omega
        obtain ⟨A0, c0, e0, _, hcell⟩ := Hac.out
        simp only [Value.slice.injEq, true_and] at e0
        obtain ⟨rfl, rfl⟩ := e0
        obtain ⟨b, off, rfl, hlt, hcell⟩ := hcell (by intro e; subst e; simp at h1)
        obtain ⟨a, ha⟩ : ∃ a, l[i]? = some a := ⟨_, List.getElem?_eq_getElem h1⟩
        obtain ⟨cs, hac, hat⟩ := hcell i a ha
        have ham : a ∈ l := List.mem_of_getElem? ha
        have Hnl := Lib.hid (Hal.out a ham).1
        have Hbl := Lib.hid (Hal.out a ham).2
        have HAcw := Lib.hid (show ∀ wx, Below w.heap.size w wx → AcAt wx w.heap.size cs a from fun wx hb => hac.below hb)
        obtain ⟨vb, vq, rfl, hvb, hvq, hk1, hk2⟩ := hac
        obtain ⟨A1, c1, rfl, _, _⟩ := id hvb
        obtain ⟨A2, c2, rfl, _, _⟩ := id hvq
        have HBs := Lib.hid (show ∀ wx, Below w.heap.size w wx → Bs wx w.heap.size (.slice A1 a.b.length c1) a.b from fun wx hb => hvb.below hb)
        have Hat := Lib.hid (show ∀ wx, Below w.heap.size w wx → wx.cell? ⟨b, off + i * 5, none⟩ = some (.int .i64 a.kind) ∧ wx.cell? ⟨b, off + i * 5 + 1, none⟩ = some (.string ⟨a.name.toArray⟩) ∧ wx.cell? ⟨b, off + i * 5 + 2, none⟩ = some (.slice A1 a.b.length c1) ∧ wx.cell? ⟨b, off + i * 5 + 3, none⟩ = some (.int .i64 a.n) ∧ wx.cell? ⟨b, off + i * 5 + 4, none⟩ = some (.slice A2 a.parts.length c2) from fun wx hbx => by
          have e0 := (hbx.cell (p := ⟨b, off + (i * 5 + 0), none⟩) hlt).trans (hat 0 (by decide))
          have e1 := (hbx.cell (p := ⟨b, off + (i * 5 + 1), none⟩) hlt).trans (hat 1 (by decide))
          have e2 := (hbx.cell (p := ⟨b, off + (i * 5 + 2), none⟩) hlt).trans (hat 2 (by decide))
          have e3 := (hbx.cell (p := ⟨b, off + (i * 5 + 3), none⟩) hlt).trans (hat 3 (by decide))
          have e4 := (hbx.cell (p := ⟨b, off + (i * 5 + 4), none⟩) hlt).trans (hat 4 (by decide))
          simp only [List.getElem?_cons_succ, List.getElem?_cons_zero, ← Nat.add_assoc, Nat.add_zero] at e0 e1 e2 e3 e4
          exact ⟨e0, e1, e2, e3, e4⟩)
        obtain ⟨e0, e1, e2, e3, e4⟩ := Hat.out wr HB.out
        have HPk2 := Lib.hid (pick_in a.kind 7 (by decide))
        obtain ⟨k, hk⟩ : ∃ k, pick a.kind 7 = k := ⟨_, rfl⟩
        have HP2 := Lib.hid (fun W => Pick_any a.kind 7 W hk1 ⟨by decide, by decide⟩)
        rw [hk] at HP2 HPk2
        have Inv1 := Lib.hid (Inv0.out.next HA.out.nodup k a)
        have HC := Lib.hid (fun (wx : World) (hx : At wx B1 Li p d) (hb : Below w.heap.size w wx) h3 => Call_at hx (Inv0.out.fits (by omega)) ((HAcw.out wx hb).more HwB.out) h3 (Hal.out a ham).1 (Hal.out a ham).2)
        rw [hk] at HC
        have hb0 : Below wr.heap.size wr (wr.alloc (Obj.cells #[.int .i64 a.kind, .string { data := a.name.toArray }, .slice A1 a.b.length c1, .int .i64 a.n, .slice A2 a.parts.length c2] 39)) := (Below.refl _ wr).alloc (Nat.le_refl _) _
        have HA1 := Lib.hid (HA.out.new hb0)
        have Sb1 := Lib.hid (Sb.out.below hb0)
        have Ss1 := Lib.hid (Ss.out.below hb0)
        have HB1 := Lib.hid (nextB HB.out (Nat.le_refl _) hb0)
        have HR1 := Lib.hid (show Row (wr.alloc (Obj.cells #[.int .i64 a.kind, .string { data := a.name.toArray }, .slice A1 a.b.length c1, .int .i64 a.n, .slice A2 a.parts.length c2] 39)) wr.heap.size [.int .i64 a.kind, .string { data := a.name.toArray }, .slice A1 a.b.length c1, .int .i64 a.n, .slice A2 a.parts.length c2] 39 from Row.new rfl rfl)
        have HG : Hid (Li wr.heap.size = none) := by
          cases hL : Li wr.heap.size with
          | none => exact rfl
          | some x => exact absurd (HA.out.lab wr.heap.size (by rw [hL]; simp)).2 (Nat.lt_irrefl _)
        have Hgm : Hid (mb + 1 < wr.heap.size) := by
          have := Ss.out.lt
          exact this
        clear hb0 hk hat hcell ha ham hk1 hk2 hvb hvq
        by_cases h3 : k ≤ 3
        · have h3' : ¬ 3 < k := by omega
          replace HC := Lib.hid (fun wx hx hb => HC.out wx hx hb h3)
          by_cases h0 : opE k d a = 0
          · have H0 := Lib.hid h0
            rw [h0] at HC
            clear h0
            by_cases k2 : k = 2
            · subst k2
              go_wp2_with (first
                | (go_at_call 23; refine (HP2.out _).mono ?_; rintro e w' ⟨rfl, rfl⟩)
                | (go_at_call 19; refine (HC.out _ HA1.out HB1.out).mono ?_; rintro e w5 ⟨rfl, L5, hat5, hst5⟩
                   have HA5 := Lib.hid hat5
                   have Sb5 := Lib.hid (Sb1.out.keep hst5.keep (fun e => e Lb.out))
                   have Ss5 := Lib.hid (Ss1.out.keep hst5.keep (fun e => e Ls.out))
                   have hr5 := hst5.keep.row HR1.out (fun e => e HG.out)
                   have HR5 := Lib.hid hr5
                   have f0 := hr5.cell (i := 0) rfl
                   have f1 := hr5.cell (i := 1) rfl
                   have f2 := hr5.cell (i := 2) rfl
                   have Lb5 := Lib.hid ((hst5.lab mb Sb1.out.lt).trans Lb.out)
                   have Ls5 := Lib.hid ((hst5.lab (mb + 1) Ss1.out.lt).trans Ls.out)
                   have HB5 := Lib.hid (HB1.out.trans ((hst5.below HA1.out).mono HwB.out))
                   clear hat5 hst5 hr5 e0 e1 e2 e3 e4 HC
                   have hget := Sb5.out.get a.name Hnl.out
                   obtain ⟨w6, hU, hs6, hk6⟩ := Ss5.out.put (by unfold maxLen; omega) a.name ((allOf d.files a.name).getD []) Hnl.out
                   have HF := Lib.hid (show At w6 B1 L5 p (opD 2 d a) ∧ SM w6 mb (i + 1) (allOf (opD 2 d a).files) ∧ SM w6 (mb + 1) (i + 1) (synOf (opD 2 d a).files) ∧ Below w.heap.size w w6 from
                     ⟨HA5.out.keep hk6 (fun b hb e => hb (e ▸ Ls5.out)), SMmore ((Sb5.out.keep hk6 (by omega)).cong fun t => by rw [allOf_op H0.out t]; by_cases ht : t = a.name <;> simp [ht]) (Nat.le_succ _),
                      hs6.cong fun t => by rw [synOf_op H0.out t]; by_cases ht : t = a.name <;> simp [ht],
                      HB5.out.trans (hk6.below HB5.out.size (fun x _ e => by have := Hwm.out; omega))⟩)
                   clear hs6 hk6)
                | fail)
              go_roundw
              case rel => exact ⟨i + 1, L5, _, h1, by go_num, HF.out.1, Inv1.out, HF.out.2.1, HF.out.2.2.1, Lb5.out, Ls5.out, HF.out.2.2.2⟩
              case measure => simp [intOf]; omega
            · by_cases k3 : k = 3
              · subst k3
                go_wp2_with (first
                  | (go_at_call 23; refine (HP2.out _).mono ?_; rintro e w' ⟨rfl, rfl⟩)
                  | (go_at_call 19; refine (HC.out _ HA1.out HB1.out).mono ?_; rintro e w5 ⟨rfl, L5, hat5, hst5⟩
                     have HA5 := Lib.hid hat5
                     have Sb5 := Lib.hid (Sb1.out.keep hst5.keep (fun e => e Lb.out))
                     have Ss5 := Lib.hid (Ss1.out.keep hst5.keep (fun e => e Ls.out))
                     have hr5 := hst5.keep.row HR1.out (fun e => e HG.out)
                     have HR5 := Lib.hid hr5
                     have f0 := hr5.cell (i := 0) rfl
                     have f1 := hr5.cell (i := 1) rfl
                     have f2 := hr5.cell (i := 2) rfl
                     have Lb5 := Lib.hid ((hst5.lab mb Sb1.out.lt).trans Lb.out)
                     have Ls5 := Lib.hid ((hst5.lab (mb + 1) Ss1.out.lt).trans Ls.out)
                     have HB5 := Lib.hid (HB1.out.trans ((hst5.below HA1.out).mono HwB.out))
                     clear hat5 hst5 hr5 e0 e1 e2 e3 e4 HC
                     skip)
                  | (at_delete; refine wpList_delete_sm rfl _ _ rfl Sb5.out a.name Hnl.out rfl rfl ?_; intro w6 hs6 hk6
                     have hr6 := hk6.row HR5.out (by have := Hgm.out; omega)
                     have f1' := hr6.cell (i := 1) rfl
                     have Sb6 := Lib.hid hs6
                     have Ss6 := Lib.hid (Ss5.out.keep hk6 (by omega))
                     have HA6 := Lib.hid (HA5.out.keep hk6 (fun b hb e => hb (e ▸ Lb5.out)))
                     have HB6 := Lib.hid (HB5.out.trans (hk6.below HB5.out.size (fun x _ e => by have := Hwm.out; omega)))
                     clear hs6 hk6 hr6 Sb5 Ss5 HA5 HB5 f0 f1 f2)
                  | (at_delete; refine wpList_delete_sm rfl _ _ rfl Ss6.out a.name Hnl.out rfl rfl ?_; intro w7 hs7 hk7
                     have HF := Lib.hid (show At w7 B1 L5 p (opD 3 d a) ∧ SM w7 mb (i + 1) (allOf (opD 3 d a).files) ∧ SM w7 (mb + 1) (i + 1) (synOf (opD 3 d a).files) ∧ Below w.heap.size w w7 from
                       ⟨HA6.out.keep hk7 (fun b hb e => hb (e ▸ Ls5.out)), SMmore ((Sb6.out.keep hk7 (by omega)).cong fun t => by rw [allOf_op H0.out t]; by_cases ht : t = a.name <;> simp [ht]) (Nat.le_succ _),
                        SMmore (hs7.cong fun t => by rw [synOf_op H0.out t]; by_cases ht : t = a.name <;> simp [ht]) (Nat.le_succ _),
                        HB6.out.trans (hk7.below HB6.out.size (fun x _ e => by have := Hwm.out; omega))⟩)
                     clear hs7 hk7 HA6 Sb6 Ss6 HB6)
                  | fail)
                go_roundw
                case rel => exact ⟨i + 1, L5, _, h1, by go_num, HF.out.1, Inv1.out, HF.out.2.1, HF.out.2.2.1, Lb5.out, Ls5.out, HF.out.2.2.2⟩
                case measure => simp [intOf]; omega
              · clear h3
                have hcat : ¬ 9223372036854775807 < ((allOf d.files a.name).getD []).length + a.b.length := by
                  have h5 := allOf_len d.files a.name
                  have h6 := Hbl.out
                  have h7 := Inv0.out.sum
                  have h8 := Inv0.out.left
                  omega
                go_wp2_with (first
                  | (go_at_call 23; refine (HP2.out _).mono ?_; rintro e w' ⟨rfl, rfl⟩)
                  | (go_at_call 19; refine (HC.out _ HA1.out HB1.out).mono ?_; rintro e w5 ⟨rfl, L5, hat5, hst5⟩
                     have HA5 := Lib.hid hat5
                     have Sb5 := Lib.hid (Sb1.out.keep hst5.keep (fun e => e Lb.out))
                     have Ss5 := Lib.hid (Ss1.out.keep hst5.keep (fun e => e Ls.out))
                     have hr5 := hst5.keep.row HR1.out (fun e => e HG.out)
                     have HR5 := Lib.hid hr5
                     have f0 := hr5.cell (i := 0) rfl
                     have f1 := hr5.cell (i := 1) rfl
                     have f2 := hr5.cell (i := 2) rfl
                     have Lb5 := Lib.hid ((hst5.lab mb Sb1.out.lt).trans Lb.out)
                     have Ls5 := Lib.hid ((hst5.lab (mb + 1) Ss1.out.lt).trans Ls.out)
                     have HB5 := Lib.hid (HB1.out.trans ((hst5.below HA1.out).mono HwB.out))
                     clear hat5 hst5 hr5 e0 e1 e2 e3 e4 HC
                     have hget := Sb5.out.get a.name Hnl.out
                     have hstr : (convert 27 9 (.slice A1 a.b.length c1)).run Try.prog w5 = .ok (.string { data := a.b.toArray }) w5 := run_str w5 (HBs.out w5 HB5.out)
                     obtain ⟨w6, hU, hs6, hk6⟩ := Sb5.out.put (by unfold maxLen; omega) a.name ((allOf d.files a.name).getD [] ++ a.b) Hnl.out
                     rw [← ba_app] at hU
                     have HF := Lib.hid (show At w6 B1 L5 p (opD k d a) ∧ SM w6 mb (i + 1) (allOf (opD k d a).files) ∧ SM w6 (mb + 1) (i + 1) (synOf (opD k d a).files) ∧ Below w.heap.size w w6 from
                       ⟨HA5.out.keep hk6 (fun b hb e => hb (e ▸ Lb5.out)), hs6.cong fun t => by rw [allOf_op H0.out t]; by_cases ht : t = a.name <;> simp [ht, k2, k3],
                        SMmore ((Ss5.out.keep hk6 (by omega)).cong fun t => by rw [synOf_op H0.out t]; by_cases ht : t = a.name <;> simp [ht, k2, k3]) (Nat.le_succ _),
                        HB5.out.trans (hk6.below HB5.out.size (fun x _ e => by have := Hwm.out; omega))⟩)
                     clear hs6 hk6)
                  | fail)
                go_roundw
                case rel => exact ⟨i + 1, L5, _, h1, by go_num, HF.out.1, Inv1.out, HF.out.2.1, HF.out.2.2.1, Lb5.out, Ls5.out, HF.out.2.2.2⟩
                case measure => simp [intOf]; omega
          · have H0 := Lib.hid h0
            have hof := op_none h0
            obtain ⟨oe, hoe⟩ : ∃ oe, opE k d a = oe := ⟨_, rfl⟩
            rw [hoe] at HC h0
            have Hof := Lib.hid hof
            clear hof hoe
            go_wp2_with (first
              | (go_at_call 23; refine (HP2.out _).mono ?_; rintro e w' ⟨rfl, rfl⟩)
              | (go_at_call 19; refine (HC.out _ HA1.out HB1.out).mono ?_; rintro e w5 ⟨rfl, L5, hat5, hst5⟩
                 have HA5 := Lib.hid hat5
                 have Sb5 := Lib.hid (Sb1.out.keep hst5.keep (fun e => e Lb.out))
                 have Ss5 := Lib.hid (Ss1.out.keep hst5.keep (fun e => e Ls.out))
                 have hr5 := hst5.keep.row HR1.out (fun e => e HG.out)
                 have HR5 := Lib.hid hr5
                 have f0 := hr5.cell (i := 0) rfl
                 have f1 := hr5.cell (i := 1) rfl
                 have f2 := hr5.cell (i := 2) rfl
                 have Lb5 := Lib.hid ((hst5.lab mb Sb1.out.lt).trans Lb.out)
                 have Ls5 := Lib.hid ((hst5.lab (mb + 1) Ss1.out.lt).trans Ls.out)
                 have HB5 := Lib.hid (HB1.out.trans ((hst5.below HA1.out).mono HwB.out))
                 clear hat5 hst5 hr5 e0 e1 e2 e3 e4 HC
                 skip)
              | fail)
            go_roundw
            case rel => exact ⟨i + 1, L5, _, h1, by go_num, HA5.out, Inv1.out, SMmore (by rw [Hof.out]; exact Sb5.out) (Nat.le_succ _), SMmore (by rw [Hof.out]; exact Ss5.out) (Nat.le_succ _), Lb5.out, Ls5.out, HB5.out⟩
            case measure => simp [intOf]; omega

        · have h3' : 3 < k := by omega
          clear HC
          go_wp2_with (first
            | (go_at_call 23; refine (HP2.out _).mono ?_; rintro e w' ⟨rfl, rfl⟩)
            | fail)
          go_roundw
          case rel => exact ⟨i + 1, Li, d, h1, by go_num, HA1.out, Inv0.out.more, SMmore Sb1.out (Nat.le_succ _), SMmore Ss1.out (Nat.le_succ _), Lb.out, Ls.out, HB1.out⟩
          case measure => simp [intOf]; omega
      · have h1' : ¬ (i : Int) < (l.length : Int) := by omega
        have hil : i = l.length := by omega
        subst hil
        have hsum := Inv0.out.sum
        have hleft := Inv0.out.left
        have hnum := Inv0.out.num
        have htd : total d.files ≤ 5000 := by omega
        have hnd := HA.out.nodup
        have hf1 : d.files.length ≤ 1000000 := by omega
        have HCr := Lib.hid (fun (wx : World) (hx : At wx B1 Li p d) (vx : Value) (hF : IsF wx Li vx parts) => Crash_at hx (by omega) hf1 (by omega) (key_len hx) vx parts hF)
        have Hall := Lib.hid (fun (t : Name) (G : Fil) (h : Dsk.look (crashD d parts).files t = some G) => crashed_all hnd h)
        have Hsyn := Lib.hid (fun (t : Name) (h : synOf d.files t ≠ none) => crashed_syn (ps := parts) hnd h)
        have Hcl := Lib.hid (crashed_clean (ps := parts) hnd)
        have ht2 := crashed_total parts hnd
        have hn2 := crashed_len parts hnd
        have hl2 : (crashD d parts).left = d.left + (total d.files : Int) - (total (crashD d parts).files : Int) := rfl
        have hof : (crashD d parts).off = false := rfl
        obtain ⟨d2, hd2⟩ : ∃ d2, crashD d parts = d2 := ⟨_, rfl⟩
        rw [hd2] at HCr Hall Hsyn Hcl ht2 hn2 hl2 hof
        have Ht2 : Hid (total d2.files ≤ 100000000 ∧ d2.files.length ≤ 100 ∧ 0 ≤ d2.left ∧ d2.left ≤ 100000000) := by
          have h9 : total d2.files ≤ 100000000 ∧ d2.files.length ≤ 100 ∧ 0 ≤ d2.left ∧ d2.left ≤ 100000000 := by omega
          exact h9
        have HN2 := Lib.hid (fun (wx : World) (Lx : Lab) (hx : At wx B1 Lx p d2) => Names_at hx (by have := Ht2.out; omega))
        obtain ⟨ns, hns⟩ : ∃ ns, names d2.files = ns := ⟨_, rfl⟩
        rw [hns] at HN2 Hsyn
        have Hns := Lib.hid hns
        have Hof := Lib.hid hof
        clear hsum hleft hnum htd hf1 ht2 hn2 hl2 hd2 hns hof
        go_wp2_with (first
          | (at_builtin; refine wpList_app_ints _ rfl _ _ rfl rfl (ownI_at _ wr.heap.size rfl) rfl (Hp.out.below (HB.out.alloc HB.out.size _)) (by simp; omega) (by simp) ?_
             intro v2 w2 ho hg _
             simp only [List.nil_append] at ho
             have hb2 : Below wr.heap.size wr w2 := (((Below.refl wr.heap.size wr).alloc (Nat.le_refl _) _).grown hg (by simp) (fun k hk => by cases hk; exact Nat.le_refl _))
             have HB2 := Lib.hid (nextB HB.out (Nat.le_refl _) hb2)
             have HA2 := Lib.hid (HA.out.new hb2)
             have Sb2 := Lib.hid (Sb.out.below hb2)
             have Ss2 := Lib.hid (Ss.out.below hb2)
             have HF2 := Lib.hid (ho.free (B := 0) (p := 0) (d := d) (L := Li) (fun b hb => by
               cases hL : Li b with
               | none => rfl
               | some x => have := (HA.out.lab b (by rw [hL]; simp)).2; omega))
             obtain ⟨A2, c2, rfl, _, _⟩ := ho.cells
             clear ho hg hb2)
          | (go_at_call 11; refine (HCr.out _ HA2.out _ HF2.out).mono ?_; rintro e w3 ⟨rfl, L3, hat3, hst3⟩
             have HA3 := Lib.hid hat3
             have HB3 := Lib.hid (HB2.out.trans ((hst3.below HA2.out).mono HwB.out))
             have Sb3 := Lib.hid (Sb2.out.keep hst3.keep (fun e => e Lb.out))
             have Ss3 := Lib.hid (Ss2.out.keep hst3.keep (fun e => e Ls.out))
             have Lb3 := Lib.hid ((hst3.lab mb Sb2.out.lt).trans Lb.out)
             have Ls3 := Lib.hid ((hst3.lab (mb + 1) Ss2.out.lt).trans Ls.out)
             clear hat3 hst3 HA2 HB2 Sb2 Ss2 HF2 HCr)
          | (go_at_call 15; refine (HN2.out _ _ HA3.out).mono ?_; rintro e w4 ⟨v4, rfl, ho, hb⟩
             obtain ⟨A4, c4, rfl, hc4, hcell⟩ := ho.cells
             have Hcell := Lib.hid hcell
             have HA4 := Lib.hid (HA3.out.new hb)
             have Sb4 := Lib.hid (Sb3.out.below hb)
             have Ss4 := Lib.hid (Ss3.out.below hb)
             have HB4 := Lib.hid (nextB HB3.out (Nat.le_refl _) hb)
             have Hm3 : Hid (mb + 1 < w3.heap.size) := (by
               have := Ss3.out.lt
               exact this)
             clear ho hb hcell hc4 HA3 HB3 Sb3 Ss3 HN2)
          | fail)
        obtain ⟨n0, hn0⟩ : ∃ n0, l.length = n0 := ⟨_, rfl⟩
        rw [hn0] at Sb4 Ss4
        clear hn0
        have Hnl : Hid (ns.length ≤ 100) := by
          have h9 : ns.length ≤ 100 := by rw [← Hns.out, names_len]; exact Ht2.out.2.1
          exact h9
        go_loopw [17] (fun jv wq => ∃ j : Nat, j ≤ ns.length ∧ jv = .int .i64 (j : Int) ∧ SM wq (mb + 1) n0 (fun t => if t ∈ ns.take j then none else synOf d.files t) ∧ Keep (fun b => b = mb + 1) w4 wq) (fun jv _ => ns.length - (intOf jv).toNat)
        case atStart => exact ⟨0, Nat.zero_le _, rfl, Ss4.out.cong (fun t => by simp), Keep.refl _ _⟩
        case round =>
          obtain ⟨j, hj, rfl, hsm, hkp⟩ := hrel
          have Sj := Lib.hid hsm
          have Kj := Lib.hid hkp
          have HA5 := Lib.hid (HA4.out.keep hkp (fun b hb e => hb (e ▸ Ls3.out)))
          have Sb5 := Lib.hid (Sb4.out.keep hkp (by omega))
          have HB5 := Lib.hid (HB4.out.trans (hkp.below HB4.out.size (fun x _ e => by have := Hwm.out; omega)))
          clear hsm hkp
          have hnl9 := Hnl.out
          by_cases h7 : j < ns.length
          · have h7' : (j : Int) < (ns.length : Int) := by omega
            obtain ⟨g6, rfl, hg5, hg6, hcn⟩ := Hcell.out (by intro e; subst e; simp at h7)
            obtain ⟨s, hsi⟩ : ∃ s, ns[j]? = some s := ⟨_, List.getElem?_eq_getElem h7⟩
            have hsm : s ∈ keys d2.files := by rw [← mem_names, Hns.out]; exact List.mem_of_getElem? hsi
            obtain ⟨G, hG⟩ := look_is hsm
            have Hsl := Lib.hid (key_len HA5.out s hsm)
            obtain ⟨all, ha1, ha2, ha3, ha4⟩ := Hall.out s G hG
            have hcr : wr.cell? ⟨g6, j, none⟩ = some (.string { data := s.toArray }) := (World.cell?_of_block (a := ⟨g6, j, none⟩) (Kj.out.block g6 hg6 (fun e => by have := Hm3.out; omega))).trans (hcn j s hsi)
            have Hg6 := Lib.hid (Nat.lt_of_lt_of_le hg6 Kj.out.size)
            have HRd := Lib.hid (Read_ok HA5.out s Hsl.out Ht2.out.1 hG)
            obtain ⟨bs, hbs⟩ : ∃ bs, G.all = bs := ⟨_, rfl⟩
            rw [hbs] at HRd ha2 ha3 ha4
            obtain ⟨sy, hsy⟩ : ∃ sy, ((fun t => if t ∈ ns.take j then none else synOf d.files t) s).getD [] = sy := ⟨_, rfl⟩
            have hsy2 : ¬ (bs.length : Int) < (sy.length : Int) := by
              have h9 : sy.length ≤ bs.length := by
                rw [← hsy]
                simp only
                split
                · simp
                · exact ha4
              omega
            have ha2' : ¬ (all.length : Int) < (bs.length : Int) := by omega
            have ha2n : ¬ all.length < bs.length := by omega
            have hext : (({ data := all.toArray } : ByteArray).extract 0 bs.length).toList = bs := (ba_take all bs.length).trans ha3
            have Ha1 := Lib.hid ha1
            have Hsy := Lib.hid hsy
            have Ha3 := Lib.hid ha3
            have Hsi := Lib.hid hsi
            clear ha1 ha3 ha4 hsy hsi hbs hG hsm hcn hg5 hg6
            go_wp2_with (first
              | (go_at_call 12; refine HRd.out.mono ?_; rintro e w5 ⟨v5, rfl, hb5, hbe⟩
                 obtain ⟨A5, c5, rfl, _, _⟩ := id hb5
                 have hcr' : w5.cell? ⟨g6, j, none⟩ = some (.string { data := s.toArray }) := (hbe.cell (p := ⟨g6, j, none⟩) Hg6.out).trans hcr
                 have Sb6 := Lib.hid (Sb5.out.below hbe)
                 have Sj6 := Lib.hid (Sj.out.below hbe)
                 have hget2 : (Instr.lookup 49 (.map (some mb)) (.string { data := s.toArray }) true).run Try.prog w5 = .ok (.tuple #[.string { data := all.toArray }, .bool true]) w5 := by
                   have h9 := Sb6.out.get2 s Hsl.out
                   rw [Ha1.out] at h9
                   exact h9
                 have hstr : ∀ n, (convert 27 9 (.slice A5 bs.length c5)).run Try.prog (w5.drewN n) = .ok (.string { data := bs.toArray }) (w5.drewN n) := fun n => run_str (w5.drewN n) (hb5.below (dN w5 n))
                 have hget : ∀ n, (Instr.lookup 49 (.map (some (mb + 1))) (.string { data := s.toArray }) false).run Try.prog (w5.drewN n) = .ok (.string { data := sy.toArray }) (w5.drewN n) := fun n => SMget (Sj6.out.below (dN w5 n)) s Hsl.out sy Hsy.out
                 have Hbe := Lib.hid hbe
                 clear hb5 hbe hcr)
              | fail)
            go_quiet (fail)
            rename_i nq
            go_wp2_with (first
              | (at_delete; refine wpList_delete_sm rfl _ _ rfl (Sj6.out.below (dN w5 nq)) s Hsl.out rfl rfl ?_; intro w7 hs7 hk7
                 have S7 := Lib.hid hs7
                 have K7 := Lib.hid hk7
                 clear hs7 hk7)
              | fail)
            go_roundw
            case rel =>
              refine ⟨j + 1, h7, by go_num, S7.out.cong (fun t => ?_), (Kj.out.trans (Keep.of_new (Hbe.out.trans ((dN w5 nq).mono Hbe.out.size)) _)).trans K7.out⟩
              rw [List.take_add_one, Hsi.out]
              by_cases ht : t = s
              · simp [ht]
              · by_cases ht2 : t ∈ ns.take j <;> simp [ht, ht2]
            case measure => simp [intOf]; omega
          · have h7' : ¬ (j : Int) < (ns.length : Int) := by omega
            have hjn : j = ns.length := by omega
            subst hjn
            have Hnone : Hid (∀ t, (fun t => if t ∈ ns.take ns.length then none else synOf d.files t) t = none) := fun t => by
              simp only [List.take_length]
              by_cases ht : t ∈ ns
              · simp [ht]
              · rw [if_neg ht]
                cases h : synOf d.files t with
                | none => rfl
                | some x => exact absurd (Hsyn.out t (by rw [h]; simp)) ht
            have hon : d2.off = false := Hof.out
            have Hlab : Hid (∀ b, wr.heap.size ≤ b → L3 b = none) := fun b hb => by
              cases hL : L3 b with
              | none => rfl
              | some x => have := (HA5.out.lab b (by rw [hL]; simp)).2; omega
            have Hfe := Lib.hid (crash_clean (ps := [5, 5, 5]) Hcl.out)
            have Hsl : Hid ((safesOf d2.files).length ≤ 1000000) := by
              have h9 : (safesOf d2.files).length ≤ 1000000 := Nat.le_trans (List.length_filterMap_le _ _) (by rw [names_len]; have := Ht2.out.2.1; omega)
              exact h9
            go_wp2_with (first
              | (go_at_call 22; refine (Safe_at HA5.out Ht2.out.1 (by have := Ht2.out; omega) (key_len HA5.out)).mono ?_; rintro e w8 ⟨v8, rfl, ho, hb⟩
                 obtain ⟨A8, c8, rfl, _⟩ := ho.shape
                 have HO8 := Lib.hid ho
                 have HA8 := Lib.hid (HA5.out.new hb)
                 have Sj8 := Lib.hid (Sj.out.below hb)
                 have HB8 := Lib.hid (nextB HB5.out (Nat.le_refl _) hb)
                 have Hw8 := Lib.hid hb.size
                 clear ho hb HA5 HB5)
              | (at_len; refine wpList_len0 rfl _ rfl Sj8.out Hnone.out rfl ?_)
              | (go_at_call 17; refine (On_at HA8.out).mono ?_; rintro e w' ⟨rfl, rfl⟩)
              | (go_at_call 11
                 have hb9 : Below w8.heap.size w8 (w8.alloc (Obj.cells #[.int .i64 5, .int .i64 5, .int .i64 5] 3)) := (Below.refl _ w8).alloc (Nat.le_refl _) _
                 have hr9 : Row (w8.alloc (Obj.cells #[.int .i64 5, .int .i64 5, .int .i64 5] 3)) w8.heap.size [.int .i64 5, .int .i64 5, .int .i64 5] 3 := Row.new rfl rfl
                 refine (Crash_at (HA8.out.new hb9) Ht2.out.1 (by have := Ht2.out; omega) Ht2.out.2.2 (key_len HA8.out) _ [5, 5, 5] ⟨_, 3, rfl, by simp, fun _ => ⟨w8.heap.size, 0, rfl, by simp, Hlab.out _ Hw8.out, fun i x hx => ?_⟩⟩).mono ?_
                 · match i, hx with
                   | 0, hx => cases hx; exact hr9.cell rfl
                   | 1, hx => cases hx; exact hr9.cell rfl
                   | 2, hx => cases hx; exact hr9.cell rfl
                   | k + 3, hx => simp at hx
                 rintro e w9 ⟨rfl, L9, hat9, hst9⟩
                 have HA9 := Lib.hid hat9
                 have HO9 := Lib.hid ((HO8.out.below hb9).keep hst9.keep (fun b hb e => e (Hlab.out b hb)))
                 have HB9 := Lib.hid ((nextB HB8.out (Nat.le_refl _) hb9).trans ((hst9.below (HA8.out.new hb9)).mono HwB.out))
                 clear hb9 hr9 hat9 hst9 HA8 HO8 HB8)
              | (go_at_call 22; refine (Safe_at HA9.out (by rw [Hfe.out]; exact Ht2.out.1) (by rw [Hfe.out]; have := Ht2.out; omega) (key_len HA9.out)).mono ?_; rintro e w10 ⟨v10, rfl, ho, hb⟩
                 rw [Hfe.out] at ho
                 obtain ⟨A10, c10, rfl, _⟩ := ho.shape
                 have HO10 := Lib.hid ho
                 have HO10b := Lib.hid ((HO9.out.at.below hb).more hb.size)
                 have HB10 := Lib.hid (nextB HB9.out (Nat.le_refl _) hb)
                 clear ho hb HA9 HO9 HB9)
              | (go_at_call 24; refine (Files_same HO10.out.at HO10b.out Hsl.out).mono ?_; rintro e w11 ⟨rfl, hb⟩
                 have HB11 := Lib.hid (nextB HB10.out (Nat.le_refl _) hb)
                 clear hb)
              | fail)
            go_ret
            exact ⟨rfl, HB11.out⟩
set_option maxRecDepth 100000 in
theorem lift (os : Os) (started : os.Started) (H : Type) (enc : TypeId × Value → H) :
    ReturnsInHanded {} Try.checked os 5 .any (Rows.diskKeepsSpec.pre6 enc Try.prog Try.f5 Rows.diskKeepsRow.domain false) (Rows.diskKeepsSpec.post enc Try.prog Try.f5 false true false false) := by
  refine Law.liftedS (C := Try.checked) 4 own started (by kernel_rfl) Try.func5 laid (by kernel_rfl) rfl Try.underlying4 rfl
    (fun ds hd => by
      have hd' : ds.length = 3 := hd
      match ds, hd' with
      | [d0, d1, d2], _ => rfl)
    (ChangeSpec.witness6 (enc := enc) (C := Try.checked) false ⟨#[], #[.slice none 0 0, .int .i64 0, .slice none 0 0], []⟩ 8 (by kernel_rfl) (by kernel_rfl) (by kernel_rfl) (by kernel_rfl)) ?_
  intro W args ds ps hst hsz
  have hA : DataW.TrodAll enc Try.prog W 0 (fun _ => true) true Try.f5.params.toList args.toList ds ps := hst.trod
  have hok := hst.okw
  have hlt := hst.lt
  rw [Try.params5] at hA hok
  obtain ⟨v0, v1, v2, d0, d1, d2, p0, p1, p2, rfl, rfl, rfl, h0, h1, h2⟩ := trodAll_three hA
  obtain ⟨_, hv0⟩ := hok 0 41 v0 rfl rfl
  obtain ⟨_, hv1⟩ := hok 1 3 v1 rfl rfl
  obtain ⟨_, hv2⟩ := hok 2 30 v2 rfl rfl
  obtain ⟨l, hAc, hll, hn, hR⟩ := acts_trod hv0 h0 (fun x hx => hlt x (List.mem_append_left _ (List.mem_append_left _ hx)))
  obtain ⟨f, rfl, hf0, hf1⟩ := Law.int_at Try.underlying3 hv1 h1
  obtain ⟨A, n, c, rfl⟩ := okWide_slice Try.underlying30 hv2
  obtain ⟨fuel, hfu⟩ := h2
  obtain ⟨zs, hzs, _⟩ := ints_trod Try.underlying30 hfu (fun x hx => hlt x (List.mem_append_right _ hx))
  have hb := hR reachBytes (hsz 0 41 d0 (by rw [Try.params5]; rfl) rfl)
  unfold reachBytes at hb
  exact walk hAc hll ⟨hf0, hf1⟩ hzs fun a ha => ⟨hn a ha, by have := (hb a ha).1; omega⟩

theorem over : Rows.diskKeepsRow.holds Try.pinned (OpenSpec.ofChange Rows.diskKeepsSpec) :=
  OpenClaim.holds_of_wide 5 Try.f5 rfl rfl rfl rfl rfl rfl rfl ⟨rfl, rfl, rfl, rfl, rfl⟩ rfl rfl rfl rfl rfl (by kernel_rfl) Try.func5 (by kernel_rfl)
    (of_decide_eq_true (by kernel_rfl)) (by unfold Func.isWrapper; first | (rw [if_pos (by decide +kernel)]; kernel_rfl) | (rw [if_neg (by decide +kernel)]; exact ⟨rfl, rfl⟩))
    (fun os started H enc _ => lift os started H enc)
theorem proved : Rows.DiskKeepsSaid := over
#print axioms proved
end Go.Proofs.Ytgmmjnedgaeefaa.diskKeeps
