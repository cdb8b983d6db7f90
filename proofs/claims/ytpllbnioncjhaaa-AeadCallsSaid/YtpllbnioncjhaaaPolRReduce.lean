/- The reference's 'reduce': a number modulo 2^130 - 5. -/
import Derived.Test.YtpllbnioncjhaaaMem
import Derived.Test.YtpllbnioncjhaaaRow
import Derived.Maps.AppendAt
import Derived.Test.YtpllbnioncjhaaaPolMath
import Derived.Test.YtpllbnioncjhaaaChaStream
import Derived.Deep.Cut
import Derived.BigRegion
namespace Go.Proofs.Ytpllbnioncjhaaa.PRef
open Go.ChangeShapes Go.WideShapes Go.RowKit
/-- A number of the reference's. -/
def nv (n : Nat) : Value := .int .i64 (n : Int)
/-- A slice that reads as these numbers, in a block below B. -/
def Is (w : World) (B : Nat) (v : Value) (l : List Nat) : Prop :=
  ∃ A c, v = .slice A l.length c ∧ (l ≠ [] → ∃ b off, A = some ⟨b, off, none⟩ ∧ b < B ∧ ∀ (i : Nat) (u : Nat), l[i]? = some u → w.cell? ⟨b, off + i, none⟩ = some (nv u))
/-- A row of the call's own that holds these numbers. -/
def OwnI (w : World) (base : Nat) (v : Value) (l : List Nat) : Prop := w.ownsRow base 3 1 v l.length (l.map nv)
theorem Is.keep {w w' : World} {B : Nat} {v : Value} {l : List Nat} (h : Is w B v l) (hk : ∀ b o, b < B → w'.cell? ⟨b, o, none⟩ = w.cell? ⟨b, o, none⟩) : Is w' B v l := by
  obtain ⟨A, c, h1, h3⟩ := h
  refine ⟨A, c, h1, fun hne => ?_⟩
  obtain ⟨b, off, h4, h5, h6⟩ := h3 hne
  exact ⟨b, off, h4, h5, fun i u hu => (hk b _ h5).trans (h6 i u hu)⟩
theorem Is.more {w : World} {B B' : Nat} {v : Value} {l : List Nat} (h : Is w B v l) (hB : B ≤ B') : Is w B' v l := by
  obtain ⟨A, c, h1, h3⟩ := h
  refine ⟨A, c, h1, fun hne => ?_⟩
  obtain ⟨b, off, h4, h5, h6⟩ := h3 hne
  exact ⟨b, off, h4, by omega, h6⟩
theorem Is.below {w w' : World} {B : Nat} {v : Value} {l : List Nat} (h : Is w B v l) (hb : Below B w w') : Is w' B v l := h.keep fun b o hbB => hb.cell (p := ⟨b, o, none⟩) hbB
theorem Is.nil (w : World) (B : Nat) (A : Option Addr) (c : Nat) : Is w B (.slice A 0 c) [] := ⟨A, c, rfl, fun h => absurd rfl h⟩
theorem OwnI.nil (w : World) (base : Nat) : OwnI w base (.slice none 0 0) [] := World.ownsRow_nil w base 3 1
theorem OwnI.is {w : World} {base : Nat} {v : Value} {l : List Nat} (h : OwnI w base v l) : Is w w.heap.size v l := by
  rcases h.2 with ⟨rfl, hl⟩ | ⟨g, cap, cur, rfl, _, hg, hnc, _⟩
  · have : l = [] := List.eq_nil_of_length_eq_zero hl
    subst this
    exact Is.nil _ _ _ _
  · refine ⟨_, cap, rfl, fun _ => ⟨g, 0, rfl, (Array.getElem?_eq_some_iff.1 hg).1, fun i u hu => ?_⟩⟩
    have := h.cells (g := g) rfl i (nv u) (by rw [List.getElem?_map, hu]; rfl)
    rwa [show (⟨g, 0, none⟩ : Addr).add i = ⟨g, 0 + i, none⟩ by unfold Addr.add; split <;> simp_all] at this
theorem Is.shape {w : World} {B : Nat} {v : Value} {l : List Nat} (h : Is w B v l) : ∃ A c, v = .slice A l.length c := by
  obtain ⟨A, c, e, _⟩ := h
  exact ⟨A, c, e⟩
theorem OwnI.block_ge {w : World} {base : Nat} {v : Value} {l : List Nat} (h : OwnI w base v l) {g : Nat} (hg : v.ownBlock = some g) : base ≤ g ∧ g < w.heap.size := h.lt g hg
theorem OwnI.alloc {w : World} {base : Nat} {v : Value} {l : List Nat} (h : OwnI w base v l) (o : Obj) : OwnI (w.alloc o) base v l := World.ownsRow.alloc h o
theorem OwnI.kept {w w' : World} {base : Nat} {v : Value} {l : List Nat} {row : Option Nat} (h : OwnI w base v l) (hg : w.grownBy w' row) (hne : v.ownBlock = none ∨ v.ownBlock ≠ row) : OwnI w' base v l := World.ownsRow.kept h hg hne
theorem OwnI.less {w : World} {base base' : Nat} {v : Value} {l : List Nat} (h : OwnI w base v l) (hb : base' ≤ base) : OwnI w base' v l := by
  refine ⟨h.1, ?_⟩
  rcases h.2 with h2 | ⟨g, cap, cur, e, hg, r⟩
  · exact .inl h2
  · exact .inr ⟨g, cap, cur, e, by omega, r⟩
theorem OwnI.below {w w' : World} {base B : Nat} {v : Value} {l : List Nat} (h : OwnI w base v l) (hb : Below B w w') (hB : w.heap.size ≤ B) : OwnI w' base v l := by
  refine ⟨h.1, ?_⟩
  rcases h.2 with h2 | ⟨g, cap, cur, e, hg, hgg, r⟩
  · exact .inl h2
  · have hlt : g < w.heap.size := (Array.getElem?_eq_some_iff.1 hgg).1
    exact .inr ⟨g, cap, cur, e, hg, by rw [hb.block g (by omega)]; exact hgg, r⟩
theorem OwnI.row {w : World} {base : Nat} {v : Value} {l : List Nat} (h : OwnI w base v l) (hn : 0 < l.length) : ∃ g cap, v = .slice (some ⟨g, 0, none⟩) l.length cap ∧ base ≤ g := by
  rcases h.2 with ⟨rfl, hl⟩ | ⟨g, cap, cur, rfl, hbg, hg, hnc, _⟩
  · omega
  · exact ⟨g, cap, rfl, hbg⟩
set_option maxRecDepth 100000 in
theorem info_int : ∃ i, Try.prog.info? 3 = some i ∧ i.zero = some (.int .i64 0) ∧ i.size = 1 ∧ i.bytes = 8 :=
  ⟨_, rfl, by kernel_rfl, by kernel_rfl, by kernel_rfl⟩
/-- append of one number, which lies in a new block. -/
theorem wpList_app_int (W : World) {ops : Array Oper} {rest : List Oper} {o : Oper} {a : Act} {Q : Exit → Act → World → Prop} (hgd : o.guard = none) (s x : Operand)
    (ho : o.op = .call { callee := .builtin .append, args := #[s, x], argTypes := #[59, 59] }) {base g y : Nat} {v : Value} {l : List Nat} (hs : a.eval s = v) {w : World} (hown : OwnI w base v l) {z : Value}
    (hW : W = w.alloc (.cells #[z] 3)) (hgw : w.heap.size = g) (hx : a.eval x = .slice (some ⟨g, 0, none⟩) 1 1) (hz : z = nv y) (hlen : l.length ≤ 1000000) (hbase : base ≤ w.heap.size)
    (h : ∀ v' w', OwnI w' base v' (l ++ [y]) → W.grownBy w' v.ownBlock → Below base w w' → (v'.ownBlock = v.ownBlock ∨ v'.ownBlock = some W.heap.size) → wpList Try.prog ops Q rest (a.put o.dst v') w') : wpList Try.prog ops Q (o :: rest) a W := by
  obtain ⟨i0, hi, hz0, hz1, hz2⟩ := info_int
  subst hW hz
  have hr : Row (w.alloc (.cells #[nv y] 3)) g [nv y] 3 := Row.new hgw rfl
  have hsz : base ≤ (w.alloc (.cells #[nv y] 3)).heap.size := by simp; omega
  refine wpList_append_own_at _ hgd s x 59 ho base 3 i0 (.int .i64 0) 1 8 Try.underlying59 hi hz0 hz1 hz2 rfl (by decide) v l.length (l.map nv) hs (hown.alloc _) ⟨g, 0, none⟩ 1 1 [nv y] hx rfl ?_ (fun u hu => by simp at hu; subst hu; rfl) (by unfold maxLen; omega) (by omega) hsz (fun v' w' h1 h2 _ h4 => h v' w' ?_ h2 ?_ h4)
  · intro j u hj
    match j, hj with
    | 0, hj => simp at hj; subst hj; exact hr.cell rfl
    | j + 1, hj => simp at hj
  · unfold OwnI
    rw [List.length_append, List.length_singleton, List.map_append, List.map_cons, List.map_nil]
    exact h1
  · exact ((Below.refl base w).alloc hbase _).grown h2 hsz (fun k hk => (hown.block_ge hk).1)
end Go.Proofs.Ytpllbnioncjhaaa.PRef
namespace Go.Proofs.Ytpllbnioncjhaaa.PRef
open Go.ChangeShapes Go.WideShapes Go.ChangeAt Go.RowKit
def Stop (p : Prop) : Prop := p
theorem stop {p : Prop} (h : Stop p) : p := h
def nums (l : List UInt8) : List Nat := l.map UInt8.toNat
theorem nums_snoc {l : List UInt8} {i : Nat} {u : UInt8} (h : l[i]? = some u) : nums (l.take (i + 1)) = nums (l.take i) ++ [u.toNat] := by
  unfold nums
  rw [List.take_add_one, h, List.map_append]
  rfl
set_option maxRecDepth 100000 in
set_option maxHeartbeats 1000000 in
theorem numbers_any (w : World) {B : Nat} {v : Value} {l : List UInt8} (hb : Bs w B v l) (hB : B ≤ w.heap.size) (hl : l.length ≤ 100000) :
    Calls Try.prog 35 #[v] w fun e w' => ∃ v', e = .returned v' ∧ OwnI w' w.heap.size v' (nums l) ∧ Below w.heap.size w w' := by
  obtain ⟨A, c, rfl, hlc, hcs⟩ := id hb
  have Hb := Lib.hid (hb.more hB)
  have Hl := Lib.hid hl
  have Hcs := Lib.hid (show l ≠ [] → ∃ b off, A = some ⟨b, off, none⟩ ∧ b < w.heap.size ∧ ∀ (i : Nat) (u : UInt8), l[i]? = some u → w.cell? ⟨b, off + i, none⟩ = some (bv u) from fun h => by
    obtain ⟨b, off, e, h1, h2⟩ := hcs h
    exact ⟨b, off, e, by omega, h2⟩)
  clear hb hl hcs hlc hB
  go_enter Try.func35, Try.ntmps35
  go_wp2_with fail
  go_loopw [3, 4] (fun vo vi wr => ∃ i : Nat, i ≤ l.length ∧ vi = .int .i64 (i : Int) ∧ OwnI wr w.heap.size vo (nums (l.take i)) ∧ Below w.heap.size w wr) (fun _ vi _ => l.length - (intOf vi).toNat)
  case atStart => exact ⟨0, Nat.zero_le _, rfl, OwnI.nil _ _, Below.refl _ _⟩
  case round =>
    obtain ⟨i, hi, rfl, ho, hb⟩ := hrel
    have Hi := Lib.hid hi
    have HO := Lib.hid ho
    have HB := Lib.hid hb
    clear hi ho hb
    by_cases h1 : i < l.length
    · have h1' : (i : Int) < (l.length : Int) := by omega
      obtain ⟨b, off, rfl, hlt, hcell⟩ := Hcs.out (by rintro rfl; simp at h1)
      obtain ⟨u, hu⟩ : ∃ u, l[i]? = some u := ⟨_, List.getElem?_eq_getElem h1⟩
      have hcw := (HB.out.cell (p := ⟨b, off + i, none⟩) hlt).trans (hcell i u hu)
      unfold bv at hcw
      have Hu := Lib.hid hu
      have hwr : wrap64 (u.toNat : Int) = (u.toNat : Int) := by
        have := u.toNat_lt
        unfold wrap64
        omega
      clear hcell hlt hu
      have hib : (i : Int) < 100000 := by have := Hl.out; omega
      go_wp2_with (first
        | (at_builtin
           refine wpList_app_int _ rfl _ _ rfl rfl HO.out rfl rfl rfl (y := u.toNat) rfl (by have := Hi.out; have := Hl.out; simp [nums]; omega) HB.out.size ?_
           intro v2 w2 ho2 _ hb2 _
           refine stop ?_)
        | fail)
      unfold Stop
      go_wp2_with fail
      go_roundw
      case rel => exact ⟨i + 1, h1, by go_num, by rw [nums_snoc Hu.out]; exact ho2, HB.out.trans hb2⟩
      case measure => simp [intOf]; omega
    · have h1' : ¬ (i : Int) < (l.length : Int) := by omega
      have hin : i = l.length := by have := Hi.out; omega
      go_wp2
      go_ret
      exact ⟨_, rfl, by have h := HO.out; rwa [hin, List.take_length] at h, HB.out⟩
end Go.Proofs.Ytpllbnioncjhaaa.PRef
namespace Go.Proofs.Ytpllbnioncjhaaa.PRef
/-- What a list of digits is worth, the lowest first. -/
def val : List Nat → Nat
  | [] => 0
  | x :: r => x + 256 * val r
theorem val_append (a b : List Nat) : val (a ++ b) = val a + 256 ^ a.length * val b := by
  induction a with
  | nil => simp [val]
  | cons x r ih =>
    simp only [List.cons_append, val, ih, List.length_cons, Nat.pow_succ]
    rw [Nat.mul_add, ← Nat.mul_assoc, Nat.mul_comm 256 (256 ^ r.length)]
    omega
theorem val_snoc (a : List Nat) (x : Nat) : val (a ++ [x]) = val a + 256 ^ a.length * x := by rw [val_append]; simp [val]
theorem val_take_succ {l : List Nat} {i x : Nat} (h : l[i]? = some x) : val (l.take (i + 1)) = val (l.take i) + 256 ^ i * x := by
  have hi : i < l.length := (List.getElem?_eq_some_iff.1 h).1
  rw [List.take_add_one, h]
  show val (l.take i ++ [x]) = _
  rw [val_snoc, List.length_take, Nat.min_eq_left (by omega)]
theorem val_zero {l : List Nat} (h : ∀ x ∈ l, x = 0) : val l = 0 := by
  induction l with
  | nil => rfl
  | cons x r ih => rw [val, ih fun y hy => h y (List.mem_cons_of_mem _ hy), h x (List.mem_cons_self ..)]
theorem val_pos {l : List Nat} {i x : Nat} (h : l[i]? = some x) (hx : x ≠ 0) : val l ≠ 0 := by
  induction l generalizing i with
  | nil => simp at h
  | cons y r ih =>
    cases i with
    | zero => simp at h; subst h; simp only [val]; omega
    | succ i =>
      have := ih (i := i) (by simpa using h)
      simp only [val]
      omega
theorem val_lt {l : List Nat} (h : ∀ x ∈ l, x < 256) : val l < 256 ^ l.length := by
  induction l with
  | nil => simp [val]
  | cons x r ih =>
    have h1 := ih fun y hy => h y (List.mem_cons_of_mem _ hy)
    have h2 := h x (List.mem_cons_self ..)
    simp only [val, List.length_cons, Nat.pow_succ]
    omega
/-- The digits of bytes: their little-endian number. -/
theorem val_nums (l : List UInt8) : val (nums l) = Poly.le l := by
  induction l with
  | nil => rfl
  | cons x r ih =>
    show x.toNat + 256 * val (nums r) = _
    rw [ih]
    rfl
end Go.Proofs.Ytpllbnioncjhaaa.PRef
namespace Go.Proofs.Ytpllbnioncjhaaa.PRef
open Go.ChangeShapes Go.WideShapes Go.ChangeAt Go.RowKit
/-- What is carried, given so many digits to come: it shrinks when there are none. -/
def Small (c i n : Nat) : Prop := c * 256 ^ (i - n) ≤ 281474976710656
theorem Small.le {c i n : Nat} (h : Small c i n) : c ≤ 281474976710656 :=
  Nat.le_trans (Nat.le_mul_of_pos_right _ (Nat.pow_pos (by decide))) h
theorem Small.few {c i n : Nat} (h : Small c i n) (hc : 0 < c) : i ≤ n + 6 := by
  by_cases hk : i ≤ n + 6
  · exact hk
  · exfalso
    have h1 : 256 ^ 7 ≤ 256 ^ (i - n) := Nat.pow_le_pow_right (by decide) (by omega)
    have h2 : 256 ^ (i - n) ≤ c * 256 ^ (i - n) := Nat.le_mul_of_pos_left _ hc
    have h3 : c * 256 ^ (i - n) ≤ 281474976710656 := h
    have h4 : (256 : Nat) ^ 7 = 72057594037927936 := by decide
    omega
theorem Small.digit {c x i n : Nat} (h : Small c i n) (hi : i < n) (hx : x ≤ 281474976710656) : Small ((c + x) / 256) (i + 1) n := by
  have := h.le
  unfold Small
  rw [show i + 1 - n = 0 by omega]
  omega
theorem Small.none {c i n : Nat} (h : Small c i n) (hi : n ≤ i) : Small (c / 256) (i + 1) n := by
  unfold Small at *
  rw [show i + 1 - n = (i - n) + 1 by omega, Nat.pow_succ, Nat.mul_comm (256 ^ (i - n)) 256, ← Nat.mul_assoc]
  exact Nat.le_trans (Nat.mul_le_mul_right _ (Nat.div_mul_le_self c 256)) h
theorem carry_step (o : List Nat) (c V : Nat) (h : val o + 256 ^ o.length * c = V) : val (o ++ [c % 256]) + 256 ^ (o ++ [c % 256]).length * (c / 256) = V := by
  rw [val_snoc, List.length_append, List.length_singleton, Nat.pow_succ, ← h, Nat.add_assoc, Nat.mul_assoc, ← Nat.mul_add]
  congr 2
  omega
theorem big_carry {o l : List Nat} {c i : Nat} (h : val o + 256 ^ o.length * c = val (l.take i)) (ht : l.take i = l) (ho : o.length = i) (hc : 0 < c) : 256 ^ (i + 1 - 1) ≤ val l := by
  rw [ht, ho] at h
  have := Nat.le_mul_of_pos_right (256 ^ i) hc
  rw [Nat.add_sub_cancel, ← h]
  omega
set_option maxRecDepth 100000 in
set_option maxHeartbeats 1000000 in
theorem plain_any (w : World) {B : Nat} {v : Value} {l : List Nat} (hb : Is w B v l) (hB : B ≤ w.heap.size) (hl : l.length ≤ 1000) (hx : ∀ x ∈ l, x ≤ 281474976710656) :
    Calls Try.prog 56 #[v] w fun e w' => ∃ v', e = .returned v' ∧ ∃ l', OwnI w' w.heap.size v' l' ∧ val l' = val l ∧ (∀ x ∈ l', x < 256) ∧ (l'.length ≤ l.length ∨ 256 ^ (l'.length - 1) ≤ val l) ∧ Below w.heap.size w w' := by
  obtain ⟨A, cc, rfl, hcs⟩ := id hb
  have Hl := Lib.hid hl
  have Hx := Lib.hid hx
  have Hcs := Lib.hid (show l ≠ [] → ∃ b off, A = some ⟨b, off, none⟩ ∧ b < w.heap.size ∧ ∀ (i : Nat) (u : Nat), l[i]? = some u → w.cell? ⟨b, off + i, none⟩ = some (nv u) from fun h => by
    obtain ⟨b, off, e, h1, h2⟩ := hcs h
    exact ⟨b, off, e, by omega, h2⟩)
  clear hb hl hcs hB hx
  go_enter Try.func56, Try.ntmps56
  go_wp2_with fail
  go_loopw [3, 4, 5] (fun vo vc vi wr => ∃ (i c : Nat) (o : List Nat), vi = .int .i64 (i : Int) ∧ vc = .int .i64 (c : Int) ∧ o.length = i ∧ (∀ x ∈ o, x < 256) ∧ val o + 256 ^ o.length * c = val (l.take i) ∧ Small c i l.length ∧ i ≤ l.length + 7 ∧ (i ≤ l.length ∨ 256 ^ (i - 1) ≤ val l) ∧ OwnI wr w.heap.size vo o ∧ Below w.heap.size w wr)
    (fun _ vc vi _ => (l.length - (intOf vi).toNat) * 1125899906842624 + (intOf vc).toNat)
  case atStart => exact ⟨0, 0, [], rfl, rfl, rfl, by simp, rfl, by simp [Small], by omega, .inl (Nat.zero_le _), OwnI.nil _ _, Below.refl _ _⟩
  case round =>
    obtain ⟨i, c, o, rfl, rfl, hoi, ho, hv, hs, hi7, hlen, hw, hb⟩ := hrel
    have Hoi := Lib.hid hoi
    have Ho := Lib.hid ho
    have Hv := Lib.hid hv
    have Hs := Lib.hid hs
    have Hi7 := Lib.hid hi7
    have Hlen := Lib.hid hlen
    have HO := Lib.hid hw
    have HB := Lib.hid hb
    have hib : (i : Int) < 2000 := by have := Hl.out; omega
    have hcb : (c : Int) ≤ 281474976710656 := by have := hs.le; omega
    clear hoi ho hv hs hi7 hlen hw hb
    by_cases h1 : i < l.length
    · have h1' : (i : Int) < (l.length : Int) := by omega
      obtain ⟨b, off, rfl, hlt, hcell⟩ := Hcs.out (by rintro rfl; simp at h1)
      obtain ⟨u, hu⟩ : ∃ u, l[i]? = some u := ⟨_, List.getElem?_eq_getElem h1⟩
      have hcw := (HB.out.cell (p := ⟨b, off + i, none⟩) hlt).trans (hcell i u hu)
      unfold nv at hcw
      have Hu := Lib.hid hu
      have hub : (u : Int) ≤ 281474976710656 := by have := Hx.out u (List.mem_of_getElem? hu); omega
      have hi2 := Hi7.out
      clear hcell hlt hu
      go_wp2_with (first
        | (at_builtin
           refine wpList_app_int _ rfl _ _ rfl rfl HO.out rfl rfl rfl (y := (c + u) % 256) (congrArg (Value.int .i64) (by omega)) (by have := Hoi.out; have := Hl.out; omega) HB.out.size ?_
           intro v2 w2 ho2 _ hb2 _
           refine stop ?_)
        | fail)
      unfold Stop
      go_wp2
      go_roundw
      case rel =>
        refine ⟨i + 1, (c + u) / 256, o ++ [(c + u) % 256], by go_num, congrArg (Value.int .i64) (by omega), by rw [List.length_append, Hoi.out]; rfl, ?_, ?_, Small.digit Hs.out h1 (by omega), by omega, .inl h1, ho2, HB.out.trans hb2⟩
        · intro x hx
          rcases List.mem_append.1 hx with h | h
          · exact Ho.out x h
          · obtain rfl : x = (c + u) % 256 := by simpa using h
            exact Nat.mod_lt _ (by decide)
        · refine carry_step o (c + u) _ ?_
          rw [val_take_succ Hu.out, ← Hv.out, Nat.mul_add, Hoi.out, Nat.add_assoc]
      case measure =>
        have := Hs.out.le
        simp [intOf]
        omega
    · have h1' : ¬ (i : Int) < (l.length : Int) := by omega
      have htk : l.take i = l := List.take_of_length_le (by omega)
      have Htk := Lib.hid htk
      clear htk
      by_cases hc : 0 < c
      · have hc' : (0 : Int) < (c : Int) := by omega
        have hfew := Hs.out.few hc
        go_wp2_with (first
          | (at_builtin
             refine wpList_app_int _ rfl _ _ rfl rfl HO.out rfl rfl rfl (y := c % 256) (congrArg (Value.int .i64) (by omega)) (by have := Hoi.out; have := Hl.out; omega) HB.out.size ?_
             intro v2 w2 ho2 _ hb2 _
             refine stop ?_)
          | fail)
        unfold Stop
        go_wp2
        go_roundw
        case rel =>
          refine ⟨i + 1, c / 256, o ++ [c % 256], by go_num, congrArg (Value.int .i64) (by omega), by rw [List.length_append, Hoi.out]; rfl, ?_, ?_, Small.none Hs.out (by omega), by omega, .inr (big_carry Hv.out Htk.out Hoi.out hc), ho2, HB.out.trans hb2⟩
          · intro x hx
            rcases List.mem_append.1 hx with h | h
            · exact Ho.out x h
            · obtain rfl : x = c % 256 := by simpa using h
              exact Nat.mod_lt _ (by decide)
          · refine carry_step o c _ ?_
            rw [Hv.out, Htk.out, List.take_of_length_le (by omega)]
        case measure =>
          simp [intOf]
          omega
      · obtain rfl : c = 0 := by omega
        have HV := Lib.hid (show val o = val l from by have h := Hv.out; rwa [Nat.mul_zero, Nat.add_zero, Htk.out] at h)
        go_wp2
        go_ret
        exact ⟨_, rfl, o, HO.out, HV.out, Ho.out, by rw [Hoi.out]; exact Hlen.out, HB.out⟩
end Go.Proofs.Ytpllbnioncjhaaa.PRef
namespace Go.Proofs.Ytpllbnioncjhaaa.PRef
open Go.ChangeShapes Go.WideShapes Go.ChangeAt Go.RowKit
theorem take_none {l : List Nat} {i : Nat} (h : ¬ i < l.length) : l.take (i + 1) = l.take i := by rw [List.take_of_length_le (by omega), List.take_of_length_le (by omega)]
theorem add_tt {a b o : List Nat} {i x y : Nat} (h : val o = val (a.take i) + val (b.take i)) (ho : o.length = i) (ha : a[i]? = some x) (hb : b[i]? = some y) : val (o ++ [x + y]) = val (a.take (i + 1)) + val (b.take (i + 1)) := by
  rw [val_snoc, ho, h, val_take_succ ha, val_take_succ hb, Nat.mul_add]
  omega
theorem add_tf {a b o : List Nat} {i x : Nat} (h : val o = val (a.take i) + val (b.take i)) (ho : o.length = i) (ha : a[i]? = some x) (hb : ¬ i < b.length) : val (o ++ [x]) = val (a.take (i + 1)) + val (b.take (i + 1)) := by
  rw [val_snoc, ho, h, val_take_succ ha, take_none hb]
  omega
theorem add_ft {a b o : List Nat} {i y : Nat} (h : val o = val (a.take i) + val (b.take i)) (ho : o.length = i) (ha : ¬ i < a.length) (hb : b[i]? = some y) : val (o ++ [y]) = val (a.take (i + 1)) + val (b.take (i + 1)) := by
  rw [val_snoc, ho, h, val_take_succ hb, take_none ha]
  omega
set_option maxRecDepth 100000 in
set_option maxHeartbeats 2000000 in
theorem add_any (w : World) {B : Nat} {v v1 : Value} {a b : List Nat} (hb : Is w B v a) (hb1 : Is w B v1 b) (hB : B ≤ w.heap.size) (hl : a.length ≤ 900) (hl1 : b.length ≤ 900) (hx : ∀ x ∈ a, x ≤ 140737488355328) (hx1 : ∀ x ∈ b, x ≤ 140737488355328) :
    Calls Try.prog 38 #[v, v1] w fun e w' => ∃ v', e = .returned v' ∧ ∃ l', OwnI w' w.heap.size v' l' ∧ val l' = val a + val b ∧ (∀ x ∈ l', x < 256) ∧ (l'.length ≤ a.length + 1 ∨ l'.length ≤ b.length + 1 ∨ 256 ^ (l'.length - 1) ≤ val a + val b) ∧ Below w.heap.size w w' := by
  obtain ⟨A, cc, rfl, hcs⟩ := id hb
  obtain ⟨A1, cc1, rfl, hcs1⟩ := id hb1
  have Hl := Lib.hid hl
  have Hx := Lib.hid hx
  have Hl1 := Lib.hid hl1
  have Hx1 := Lib.hid hx1
  have Hcs := Lib.hid (show a ≠ [] → ∃ b off, A = some ⟨b, off, none⟩ ∧ b < w.heap.size ∧ ∀ (i : Nat) (u : Nat), a[i]? = some u → w.cell? ⟨b, off + i, none⟩ = some (nv u) from fun h => by
    obtain ⟨b, off, e, h1, h2⟩ := hcs h
    exact ⟨b, off, e, by omega, h2⟩)
  have Hcs1 := Lib.hid (show b ≠ [] → ∃ b_1 off, A1 = some ⟨b_1, off, none⟩ ∧ b_1 < w.heap.size ∧ ∀ (i : Nat) (u : Nat), b[i]? = some u → w.cell? ⟨b_1, off + i, none⟩ = some (nv u) from fun h => by
    obtain ⟨b, off, e, h1, h2⟩ := hcs1 h
    exact ⟨b, off, e, by omega, h2⟩)
  clear hb hb1 hl hl1 hcs hcs1 hB hx hx1
  go_enter Try.func38, Try.ntmps38
  go_wp2_with fail
  go_loopw [5, 6] (fun vo vi wr => ∃ (i : Nat) (o : List Nat), vi = .int .i64 (i : Int) ∧ o.length = i ∧ (i ≤ a.length ∨ i ≤ b.length) ∧ (∀ x ∈ o, x ≤ 281474976710656) ∧ val o = val (a.take i) + val (b.take i) ∧ OwnI wr w.heap.size vo o ∧ Below w.heap.size w wr)
    (fun _ vi _ => 2000 - (intOf vi).toNat)
  case atStart => exact ⟨0, [], rfl, rfl, by omega, by simp, rfl, OwnI.nil _ _, Below.refl _ _⟩
  case round =>
    obtain ⟨i, o, rfl, hoi, him, ho, hv, hw, hb⟩ := hrel
    have Hoi := Lib.hid hoi
    have Him := Lib.hid him
    have Ho := Lib.hid ho
    have Hv := Lib.hid hv
    have HO := Lib.hid hw
    have HB := Lib.hid hb
    have hib : (i : Int) < 1000 := by have := Hl.out; have := Hl1.out; omega
    clear hoi him ho hv hw hb
    by_cases h1 : i < a.length
    · have h1' : (i : Int) < (a.length : Int) := by omega
      obtain ⟨b1, off1, rfl, hlt, hcell⟩ := Hcs.out (by rintro rfl; simp at h1)
      obtain ⟨u1, hu⟩ : ∃ u, a[i]? = some u := ⟨_, List.getElem?_eq_getElem h1⟩
      have hcw1 := (HB.out.cell (p := ⟨b1, off1 + i, none⟩) hlt).trans (hcell i u1 hu)
      unfold nv at hcw1
      have Hu1 := Lib.hid hu
      have hub1 : (u1 : Int) ≤ 140737488355328 := by have := Hx.out u1 (List.mem_of_getElem? hu); omega
      clear hcell hlt hu
      by_cases h2 : i < b.length
      · have h2' : (i : Int) < (b.length : Int) := by omega
        obtain ⟨b2, off2, rfl, hlt, hcell⟩ := Hcs1.out (by rintro rfl; simp at h2)
        obtain ⟨u2, hu⟩ : ∃ u, b[i]? = some u := ⟨_, List.getElem?_eq_getElem h2⟩
        have hcw2 := (HB.out.cell (p := ⟨b2, off2 + i, none⟩) hlt).trans (hcell i u2 hu)
        unfold nv at hcw2
        have Hu2 := Lib.hid hu
        have hub2 : (u2 : Int) ≤ 140737488355328 := by have := Hx1.out u2 (List.mem_of_getElem? hu); omega
        clear hcell hlt hu
        go_wp2_with (first
          | (at_builtin
             refine wpList_app_int _ rfl _ _ rfl rfl HO.out rfl rfl rfl (y := u1 + u2) (congrArg (Value.int .i64) (by omega)) (by have := Hoi.out; omega) HB.out.size ?_
             intro v2 w2 ho2 _ hb2 _
             refine stop ?_)
          | fail)
        unfold Stop
        go_wp2
        go_roundw
        case rel =>
          refine ⟨i + 1, o ++ [u1 + u2], by go_num, by rw [List.length_append, Hoi.out]; rfl, by omega, ?_, add_tt Hv.out Hoi.out Hu1.out Hu2.out, ho2, HB.out.trans hb2⟩
          intro x hx
          rcases List.mem_append.1 hx with h | h
          · exact Ho.out x h
          · obtain rfl : x = u1 + u2 := by simpa using h
            omega
        case measure =>
          simp [intOf]
          omega
      · have h2' : ¬ (i : Int) < (b.length : Int) := by omega
        go_wp2_with (first
          | (at_builtin
             refine wpList_app_int _ rfl _ _ rfl rfl HO.out rfl rfl rfl (y := u1) (congrArg (Value.int .i64) (by omega)) (by have := Hoi.out; omega) HB.out.size ?_
             intro v2 w2 ho2 _ hb2 _
             refine stop ?_)
          | fail)
        unfold Stop
        go_wp2
        go_roundw
        case rel =>
          refine ⟨i + 1, o ++ [u1], by go_num, by rw [List.length_append, Hoi.out]; rfl, by omega, ?_, add_tf Hv.out Hoi.out Hu1.out h2, ho2, HB.out.trans hb2⟩
          intro x hx
          rcases List.mem_append.1 hx with h | h
          · exact Ho.out x h
          · obtain rfl : x = u1 := by simpa using h
            omega
        case measure =>
          simp [intOf]
          omega
    · have h1' : ¬ (i : Int) < (a.length : Int) := by omega
      by_cases h2 : i < b.length
      · have h2' : (i : Int) < (b.length : Int) := by omega
        obtain ⟨b2, off2, rfl, hlt, hcell⟩ := Hcs1.out (by rintro rfl; simp at h2)
        obtain ⟨u2, hu⟩ : ∃ u, b[i]? = some u := ⟨_, List.getElem?_eq_getElem h2⟩
        have hcw2 := (HB.out.cell (p := ⟨b2, off2 + i, none⟩) hlt).trans (hcell i u2 hu)
        unfold nv at hcw2
        have Hu2 := Lib.hid hu
        have hub2 : (u2 : Int) ≤ 140737488355328 := by have := Hx1.out u2 (List.mem_of_getElem? hu); omega
        clear hcell hlt hu
        go_wp2_with (first
          | (at_builtin
             refine wpList_app_int _ rfl _ _ rfl rfl HO.out rfl rfl rfl (y := u2) (congrArg (Value.int .i64) (by omega)) (by have := Hoi.out; omega) HB.out.size ?_
             intro v2 w2 ho2 _ hb2 _
             refine stop ?_)
          | fail)
        unfold Stop
        go_wp2
        go_roundw
        case rel =>
          refine ⟨i + 1, o ++ [u2], by go_num, by rw [List.length_append, Hoi.out]; rfl, by omega, ?_, add_ft Hv.out Hoi.out h1 Hu2.out, ho2, HB.out.trans hb2⟩
          intro x hx
          rcases List.mem_append.1 hx with h | h
          · exact Ho.out x h
          · obtain rfl : x = u2 := by simpa using h
            omega
        case measure =>
          simp [intOf]
          omega
      · have h2' : ¬ (i : Int) < (b.length : Int) := by omega
        have HV := Lib.hid (show val o = val a + val b from by have h := Hv.out; rwa [List.take_of_length_le (by omega), List.take_of_length_le (by omega)] at h)
        go_wp2_with fail
        refine (plain_any wr HO.out.is (Nat.le_refl _) (by have := Hoi.out; omega) Ho.out).mono ?_
        rintro e w3 ⟨v3, rfl, l3, ho3, hv3, hx3, hl3, hb3⟩
        have HO3 := Lib.hid ho3
        have HB3 := Lib.hid hb3
        have HX3 := Lib.hid hx3
        have HL3 := Lib.hid hl3
        have HV3 := Lib.hid hv3
        clear ho3 hb3 hx3 hl3 hv3
        go_wp2
        go_ret
        exact ⟨_, rfl, l3, HO3.out.less HB.out.size, HV3.out.trans HV.out, HX3.out, HL3.out.elim (fun h => by have := Hoi.out; have := Him.out; omega) (fun h => .inr (.inr (HV.out ▸ h))), nextB HB.out (Nat.le_refl _) HB3.out⟩
end Go.Proofs.Ytpllbnioncjhaaa.PRef
namespace Go.Proofs.Ytpllbnioncjhaaa.PRef
open Go.ChangeShapes Go.WideShapes Go.ChangeAt Go.RowKit
theorem val_split (l : List Nat) (k : Nat) (h : k ≤ l.length) : val l = val (l.take k) + 256 ^ k * val (l.drop k) := by
  have e := val_append (l.take k) (l.drop k)
  rw [List.take_append_drop, List.length_take, Nat.min_eq_left h] at e
  exact e
theorem val_drop {l : List Nat} {i d : Nat} (h : l[i]? = some d) : val (l.drop i) = d + 256 * val (l.drop (i + 1)) := by
  have hi := (List.getElem?_eq_some_iff.1 h).1
  rw [List.drop_eq_getElem_cons hi]
  have : l[i] = d := (List.getElem?_eq_some_iff.1 h).2
  rw [this]
  rfl
theorem val_drop_none {l : List Nat} {i : Nat} (h : ¬ i < l.length) : val (l.drop i) = 0 := by
  rw [List.drop_of_length_le (by omega)]
  rfl
/-- What the low part is worth after i digits. -/
def lowV (l : List Nat) (i : Nat) : Nat := if i ≤ 16 then val (l.take i) else val (l.take 16) + 256 ^ 16 * (l.getD 16 0 % 4)
theorem lowV_step {l o : List Nat} {i d : Nat} (h : val o = lowV l i) (ho : o.length = i) (hd : l[i]? = some d) (hi : i < 16) : val (o ++ [d]) = lowV l (i + 1) := by
  unfold lowV at *
  rw [if_pos (by omega)] at h
  rw [if_pos (by omega), val_snoc, ho, h, val_take_succ hd]
theorem lowV_last {l o : List Nat} {d : Nat} (h : val o = lowV l 16) (ho : o.length = 16) (hd : l[16]? = some d) : val (o ++ [d % 4]) = lowV l (16 + 1) := by
  unfold lowV at *
  rw [if_pos (by omega)] at h
  rw [if_neg (by omega), val_snoc, ho, h, List.getD_eq_getElem?_getD, hd]
  rfl
theorem lowV_end {l : List Nat} {i : Nat} (hx : ∀ x ∈ l, x < 256) (hi : i ≤ 17) (hl : i ≤ l.length) (h : ¬ i < l.length ∨ ¬ i < 17) : lowV l i = val l % 1361129467683753853853498429727072845824 := by
  have e16 : (256 : Nat) ^ 16 = 340282366920938463463374607431768211456 := by decide
  by_cases h16 : i ≤ 16
  · have hli : i = l.length := by omega
    have h1 := val_lt hx
    have h2 : (256 : Nat) ^ l.length ≤ 256 ^ 16 := Nat.pow_le_pow_right (by decide) (by omega)
    unfold lowV
    rw [if_pos h16, hli, List.take_length, Nat.mod_eq_of_lt]
    omega
  · obtain rfl : i = 17 := by omega
    obtain ⟨d, hd⟩ : ∃ d, l[16]? = some d := ⟨_, List.getElem?_eq_getElem (by omega)⟩
    have h1 := val_lt (l := l.take 16) fun x hx' => hx x (List.mem_of_mem_take hx')
    rw [List.length_take, Nat.min_eq_left (by omega)] at h1
    have h2 := val_split l 16 (by omega)
    rw [val_drop hd] at h2
    unfold lowV
    rw [if_neg (by omega), List.getD_eq_getElem?_getD, hd, h2]
    simp only [Option.getD_some]
    rw [e16] at *
    generalize val (l.take 16) = s at *
    generalize val (l.drop (16 + 1)) = r at *
    omega
theorem high_step {l o : List Nat} {i d d' : Nat} {V : Nat} (hd : l[i]? = some d) (hd' : l[i + 1]? = some d') (ho : o.length = i - 16) (hi : 16 ≤ i) (h : val o + 256 ^ (i - 16) * (val (l.drop i) / 4) = V) :
    val (o ++ [d / 4 + d' % 4 * 64]) + 256 ^ (i + 1 - 16) * (val (l.drop (i + 1)) / 4) = V := by
  rw [val_snoc, ho, ← h, show i + 1 - 16 = (i - 16) + 1 by omega, Nat.pow_succ, Nat.add_assoc, Nat.mul_assoc, ← Nat.mul_add, val_drop hd, val_drop hd']
  congr 2
  omega
theorem high_last {l o : List Nat} {i d : Nat} {V : Nat} (hd : l[i]? = some d) (hd' : ¬ i + 1 < l.length) (ho : o.length = i - 16) (hi : 16 ≤ i) (h : val o + 256 ^ (i - 16) * (val (l.drop i) / 4) = V) :
    val (o ++ [d / 4]) + 256 ^ (i + 1 - 16) * (val (l.drop (i + 1)) / 4) = V := by
  rw [val_snoc, ho, ← h, show i + 1 - 16 = (i - 16) + 1 by omega, Nat.pow_succ, Nat.add_assoc, Nat.mul_assoc, ← Nat.mul_add, val_drop hd, val_drop_none hd']
  congr 2
theorem high_end {l : List Nat} (hx : ∀ x ∈ l, x < 256) : val (l.drop 16) / 4 = val l / 1361129467683753853853498429727072845824 := by
  have e16 : (256 : Nat) ^ 16 = 340282366920938463463374607431768211456 := by decide
  by_cases h : l.length ≤ 16
  · have h1 := val_lt hx
    have h2 : (256 : Nat) ^ l.length ≤ 256 ^ 16 := Nat.pow_le_pow_right (by decide) h
    have e : val l / 1361129467683753853853498429727072845824 = 0 := Nat.div_eq_of_lt (by omega)
    rw [List.drop_of_length_le h, e]
    rfl
  · have h1 := val_lt (l := l.take 16) fun x hx' => hx x (List.mem_of_mem_take hx')
    rw [List.length_take, Nat.min_eq_left (by omega)] at h1
    rw [val_split l 16 (by omega)]
    rw [e16] at *
    generalize val (l.take 16) = s at *
    generalize val (l.drop 16) = r at *
    omega
def PartsP (w w' : World) (v0 v1 : Value) (l : List Nat) : Prop := ∃ l0 l1, OwnI w' w.heap.size v0 l0 ∧ OwnI w' w.heap.size v1 l1 ∧ val l0 = val l % 1361129467683753853853498429727072845824 ∧ val l1 = val l / 1361129467683753853853498429727072845824 ∧ (∀ x ∈ l0, x < 256) ∧ (∀ x ∈ l1, x < 256) ∧ l0.length ≤ 17 ∧ l1.length ≤ l.length - 16 ∧ Below w.heap.size w w'
theorem PartsP.intro {w w' : World} {v0 v1 : Value} {l l0 l1 : List Nat} (h0 : OwnI w' w.heap.size v0 l0) (h1 : OwnI w' w.heap.size v1 l1) (h2 : val l0 = val l % 1361129467683753853853498429727072845824) (h3 : val l1 = val l / 1361129467683753853853498429727072845824) (h4 : (∀ x ∈ l0, x < 256)) (h5 : (∀ x ∈ l1, x < 256)) (h6 : l0.length ≤ 17) (h7 : l1.length ≤ l.length - 16) (h8 : Below w.heap.size w w') : PartsP w w' v0 v1 l := by
  unfold PartsP
  exact ⟨l0, l1, h0, h1, h2, h3, h4, h5, h6, h7, h8⟩
set_option maxRecDepth 100000 in
set_option maxHeartbeats 2000000 in
theorem parts_any (w : World) {B : Nat} {v : Value} {l : List Nat} (hb : Is w B v l) (hB : B ≤ w.heap.size) (hl : l.length ≤ 900) (hx : ∀ x ∈ l, x < 256) :
    Calls Try.prog 54 #[v] w fun e w' => ∃ v0 v1, e = .returned (.tuple #[v0, v1]) ∧ PartsP w w' v0 v1 l := by
  obtain ⟨A, cc, rfl, hcs⟩ := id hb
  have Hl := Lib.hid hl
  have Hx := Lib.hid hx
  have Hcs := Lib.hid (show l ≠ [] → ∃ b off, A = some ⟨b, off, none⟩ ∧ b < w.heap.size ∧ ∀ (i : Nat) (u : Nat), l[i]? = some u → w.cell? ⟨b, off + i, none⟩ = some (nv u) from fun h => by
    obtain ⟨b, off, e, h1, h2⟩ := hcs h
    exact ⟨b, off, e, by omega, h2⟩)
  clear hb hl hcs hB hx
  go_enter Try.func54, Try.ntmps54
  go_wp2_with fail
  go_loopw [4, 6] (fun vo vi wr => ∃ (i : Nat) (o : List Nat), vi = .int .i64 (i : Int) ∧ o.length = i ∧ i ≤ 17 ∧ i ≤ l.length ∧ (∀ x ∈ o, x < 256) ∧ val o = lowV l i ∧ OwnI wr w.heap.size vo o ∧ Below w.heap.size w wr)
    (fun _ vi _ => 20 - (intOf vi).toNat)
  case atStart => exact ⟨0, [], rfl, rfl, by omega, by omega, by simp, rfl, OwnI.nil _ _, Below.refl _ _⟩
  case round =>
    obtain ⟨i, o, rfl, hoi, hi17, hil, ho, hv, hw, hb⟩ := hrel
    have Hoi := Lib.hid hoi
    have Hi17 := Lib.hid hi17
    have Hil := Lib.hid hil
    have Ho := Lib.hid ho
    have Hv := Lib.hid hv
    have HO := Lib.hid hw
    have HB := Lib.hid hb
    have hib : (i : Int) < 1000 := by omega
    clear hoi hi17 hil ho hv hw hb
    by_cases h1 : i < l.length
    · have h1' : (i : Int) < (l.length : Int) := by omega
      by_cases h2 : i < 17
      · have h2' : (i : Int) < 17 := by omega
        obtain ⟨b, off, rfl, hlt, hcell⟩ := Hcs.out (by rintro rfl; simp at h1)
        obtain ⟨u, hu⟩ : ∃ u, l[i]? = some u := ⟨_, List.getElem?_eq_getElem h1⟩
        have hcw := (HB.out.cell (p := ⟨b, off + i, none⟩) hlt).trans (hcell i u hu)
        unfold nv at hcw
        have Hu := Lib.hid hu
        have Hub := Lib.hid (Hx.out u (List.mem_of_getElem? hu))
        clear hcell hlt hu
        by_cases h3 : i = 16
        · subst h3
          go_wp2_with (first
            | (at_builtin
               refine wpList_app_int _ rfl _ _ rfl rfl HO.out rfl rfl rfl (y := u % 4) (congrArg (Value.int .i64) (by omega)) (by have := Hoi.out; omega) HB.out.size ?_
               intro v2 w2 ho2 _ hb2 _
               refine stop ?_)
            | fail)
          unfold Stop
          go_wp2
          go_roundw
          case rel =>
            refine ⟨16 + 1, o ++ [u % 4], by first | rfl | go_num, by rw [List.length_append, Hoi.out]; rfl, by omega, by omega, ?_, lowV_last Hv.out Hoi.out Hu.out, ho2, HB.out.trans hb2⟩
            intro x hx
            rcases List.mem_append.1 hx with h | h
            · exact Ho.out x h
            · obtain rfl : x = u % 4 := by simpa using h
              have := Hub.out
              omega
          case measure =>
            simp [intOf]
            try omega
        · have h3' : ¬ (i : Int) = 16 := by omega
          go_wp2_with (first
            | (at_builtin
               refine wpList_app_int _ rfl _ _ rfl rfl HO.out rfl rfl rfl (y := u) (congrArg (Value.int .i64) (by omega)) (by have := Hoi.out; omega) HB.out.size ?_
               intro v2 w2 ho2 _ hb2 _
               refine stop ?_)
            | fail)
          unfold Stop
          go_wp2
          go_roundw
          case rel =>
            refine ⟨i + 1, o ++ [u], by first | rfl | go_num, by rw [List.length_append, Hoi.out]; rfl, by omega, by omega, ?_, lowV_step Hv.out Hoi.out Hu.out (by omega), ho2, HB.out.trans hb2⟩
            intro x hx
            rcases List.mem_append.1 hx with h | h
            · exact Ho.out x h
            · obtain rfl : x = u := by simpa using h
              have := Hub.out
              omega
          case measure =>
            simp [intOf]
            try omega
      · have h2' : ¬ (i : Int) < 17 := by omega
        have HV := Lib.hid (Hv.out.trans (lowV_end Hx.out Hi17.out Hil.out (.inr h2)))
        go_wp2_with fail
        have HBo := HB
        have HOo := HO
        obtain ⟨W1, hW1⟩ : ∃ W, wr = W := ⟨_, rfl⟩
        go_loopw [5, 8] (fun vp vk wh => ∃ (k : Nat) (p : List Nat), vk = .int .i64 (k : Int) ∧ p.length = k - 16 ∧ 16 ≤ k ∧ (k ≤ l.length ∨ k = 16) ∧ (∀ x ∈ p, x < 256) ∧ val p + 256 ^ (k - 16) * (val (l.drop k) / 4) = val (l.drop 16) / 4 ∧ OwnI wh wr.heap.size vp p ∧ Below wr.heap.size wr wh)
          (fun _ vk _ => 2000 - (intOf vk).toNat)
        case atStart => exact ⟨16, [], rfl, rfl, by omega, by omega, by simp, by simp [val], OwnI.nil _ _, Below.refl _ _⟩
        case round =>
          obtain ⟨k, p, rfl, hok, hk16, hkl, hp, hvp, hoh, hbh⟩ := hrel
          have Hok := Lib.hid hok
          have Hk16 := Lib.hid hk16
          have Hkl := Lib.hid hkl
          have Hp := Lib.hid hp
          have Hvp := Lib.hid hvp
          have HOh := Lib.hid hoh
          have HBh := Lib.hid hbh
          have hkb : (k : Int) < 1000 := by have := Hl.out; omega
          have HCw := Lib.hid (show ∀ (b o : Nat) (v : Value), b < w.heap.size → w.cell? ⟨b, o, none⟩ = some v → _root_.Go.World.cell? _ ⟨b, o, none⟩ = some v from fun b o v hb he => ((HBo.out.trans (hbh.mono HBo.out.size)).cell (p := ⟨b, o, none⟩) hb).trans he)
          clear hok hk16 hkl hp hvp hoh hbh
          by_cases h4 : k < l.length
          · have h4' : (k : Int) < (l.length : Int) := by omega
            obtain ⟨b4, off4, hA4, hlt4, hcell4⟩ := Hcs.out (by rintro rfl; simp at h4)
            subst hA4
            obtain ⟨u4, hu4⟩ : ∃ u, l[k]? = some u := ⟨_, List.getElem?_eq_getElem h4⟩
            have hcw4 := HCw.out b4 (off4 + k) _ hlt4 (hcell4 k u4 hu4)
            unfold nv at hcw4
            have Hu4 := Lib.hid hu4
            have Hub4 := Lib.hid (Hx.out u4 (List.mem_of_getElem? hu4))
            by_cases h5 : k + 1 < l.length
            · have h5' : (k : Int) + 1 < (l.length : Int) := by omega
              obtain ⟨u5, hu5⟩ : ∃ u, l[k + 1]? = some u := ⟨_, List.getElem?_eq_getElem h5⟩
              have hcw5 := HCw.out b4 (off4 + (k + 1)) _ hlt4 (hcell4 (k + 1) u5 hu5)
              unfold nv at hcw5
              have Hu5 := Lib.hid hu5
              have hub5 : (u5 : Int) < 256 := by have := Hx.out u5 (List.mem_of_getElem? hu5); omega
              have hub4 : (u4 : Int) < 256 := by have := Hub4.out; omega
              clear hcell4 hlt4 hu4 hu5
              go_wp2_with (first
                | (at_builtin
                   refine wpList_app_int _ rfl _ _ rfl rfl HOh.out rfl rfl rfl (y := u4 / 4 + u5 % 4 * 64) (congrArg (Value.int .i64) (by omega)) (by have := Hok.out; omega) HBh.out.size ?_
                   intro v2 w2 ho2 hg2 hb2 _
                   have HG := Lib.hid hg2
                   have HO2 := Lib.hid ho2
                   have HB2 := Lib.hid hb2
                   clear hg2 ho2 hb2
                   refine stop ?_)
                | fail)
              unfold Stop
              go_wp2
              go_roundw
              case rel =>
                refine ⟨k + 1, p ++ [u4 / 4 + u5 % 4 * 64], by go_num, by rw [List.length_append, Hok.out, List.length_singleton]; have := Hk16.out; omega, by have := Hk16.out; omega, .inl h4, ?_, high_step Hu4.out Hu5.out Hok.out Hk16.out Hvp.out, HO2.out, HBh.out.trans HB2.out⟩
                intro x hx
                rcases List.mem_append.1 hx with h | h
                · exact Hp.out x h
                · obtain rfl : x = u4 / 4 + u5 % 4 * 64 := by simpa using h
                  have := Hub4.out
                  omega
              case measure =>
                simp [intOf]
                omega
            · have h5' : ¬ (k : Int) + 1 < (l.length : Int) := by omega
              have hub4 : (u4 : Int) < 256 := by have := Hub4.out; omega
              clear hcell4 hlt4 hu4
              go_wp2_with (first
                | (at_builtin
                   refine wpList_app_int _ rfl _ _ rfl rfl HOh.out rfl rfl rfl (y := u4 / 4) (congrArg (Value.int .i64) (by omega)) (by have := Hok.out; omega) HBh.out.size ?_
                   intro v2 w2 ho2 hg2 hb2 _
                   have HG := Lib.hid hg2
                   have HO2 := Lib.hid ho2
                   have HB2 := Lib.hid hb2
                   clear hg2 ho2 hb2
                   refine stop ?_)
                | fail)
              unfold Stop
              go_wp2
              go_roundw
              case rel =>
                refine ⟨k + 1, p ++ [u4 / 4], by go_num, by rw [List.length_append, Hok.out, List.length_singleton]; have := Hk16.out; omega, by have := Hk16.out; omega, .inl h4, ?_, high_last Hu4.out h5 Hok.out Hk16.out Hvp.out, HO2.out, HBh.out.trans HB2.out⟩
                intro x hx
                rcases List.mem_append.1 hx with h | h
                · exact Hp.out x h
                · obtain rfl : x = u4 / 4 := by simpa using h
                  have := Hub4.out
                  omega
              case measure =>
                simp [intOf]
                omega
          · have h4' : ¬ (k : Int) < (l.length : Int) := by omega
            have HVp := Lib.hid (show val p = val l / 1361129467683753853853498429727072845824 from by have h := Hvp.out; rwa [val_drop_none h4, Nat.zero_div, Nat.mul_zero, Nat.add_zero, high_end Hx.out] at h)
            have hOo := Lib.hid (HOo.out.below HBh.out (Nat.le_refl _))
            have hOp := Lib.hid (HOh.out.less HBo.out.size)
            go_wp2
            go_ret2
            exact ⟨_, _, rfl, PartsP.intro hOo.out hOp.out HV.out HVp.out Ho.out Hp.out (by have := Hoi.out; have := Hi17.out; omega) (by have := Hok.out; have := Hkl.out; omega) (nextB HBo.out (Nat.le_refl _) HBh.out)⟩
    · have h1' : ¬ (i : Int) < (l.length : Int) := by omega
      have HV := Lib.hid (Hv.out.trans (lowV_end Hx.out Hi17.out Hil.out (.inl h1)))
      go_wp2_with fail
      have HBo := HB
      have HOo := HO
      obtain ⟨W1, hW1⟩ : ∃ W, wr = W := ⟨_, rfl⟩
      go_loopw [5, 8] (fun vp vk wh => ∃ (k : Nat) (p : List Nat), vk = .int .i64 (k : Int) ∧ p.length = k - 16 ∧ 16 ≤ k ∧ (k ≤ l.length ∨ k = 16) ∧ (∀ x ∈ p, x < 256) ∧ val p + 256 ^ (k - 16) * (val (l.drop k) / 4) = val (l.drop 16) / 4 ∧ OwnI wh wr.heap.size vp p ∧ Below wr.heap.size wr wh)
        (fun _ vk _ => 2000 - (intOf vk).toNat)
      case atStart => exact ⟨16, [], rfl, rfl, by omega, by omega, by simp, by simp [val], OwnI.nil _ _, Below.refl _ _⟩
      case round =>
        obtain ⟨k, p, rfl, hok, hk16, hkl, hp, hvp, hoh, hbh⟩ := hrel
        have Hok := Lib.hid hok
        have Hk16 := Lib.hid hk16
        have Hkl := Lib.hid hkl
        have Hp := Lib.hid hp
        have Hvp := Lib.hid hvp
        have HOh := Lib.hid hoh
        have HBh := Lib.hid hbh
        have hkb : (k : Int) < 1000 := by have := Hl.out; omega
        have HCw := Lib.hid (show ∀ (b o : Nat) (v : Value), b < w.heap.size → w.cell? ⟨b, o, none⟩ = some v → _root_.Go.World.cell? _ ⟨b, o, none⟩ = some v from fun b o v hb he => ((HBo.out.trans (hbh.mono HBo.out.size)).cell (p := ⟨b, o, none⟩) hb).trans he)
        clear hok hk16 hkl hp hvp hoh hbh
        by_cases h4 : k < l.length
        · have h4' : (k : Int) < (l.length : Int) := by omega
          obtain ⟨b4, off4, hA4, hlt4, hcell4⟩ := Hcs.out (by rintro rfl; simp at h4)
          subst hA4
          obtain ⟨u4, hu4⟩ : ∃ u, l[k]? = some u := ⟨_, List.getElem?_eq_getElem h4⟩
          have hcw4 := HCw.out b4 (off4 + k) _ hlt4 (hcell4 k u4 hu4)
          unfold nv at hcw4
          have Hu4 := Lib.hid hu4
          have Hub4 := Lib.hid (Hx.out u4 (List.mem_of_getElem? hu4))
          by_cases h5 : k + 1 < l.length
          · have h5' : (k : Int) + 1 < (l.length : Int) := by omega
            obtain ⟨u5, hu5⟩ : ∃ u, l[k + 1]? = some u := ⟨_, List.getElem?_eq_getElem h5⟩
            have hcw5 := HCw.out b4 (off4 + (k + 1)) _ hlt4 (hcell4 (k + 1) u5 hu5)
            unfold nv at hcw5
            have Hu5 := Lib.hid hu5
            have hub5 : (u5 : Int) < 256 := by have := Hx.out u5 (List.mem_of_getElem? hu5); omega
            have hub4 : (u4 : Int) < 256 := by have := Hub4.out; omega
            clear hcell4 hlt4 hu4 hu5
            go_wp2_with (first
              | (at_builtin
                 refine wpList_app_int _ rfl _ _ rfl rfl HOh.out rfl rfl rfl (y := u4 / 4 + u5 % 4 * 64) (congrArg (Value.int .i64) (by omega)) (by have := Hok.out; omega) HBh.out.size ?_
                 intro v2 w2 ho2 hg2 hb2 _
                 have HG := Lib.hid hg2
                 have HO2 := Lib.hid ho2
                 have HB2 := Lib.hid hb2
                 clear hg2 ho2 hb2
                 refine stop ?_)
              | fail)
            unfold Stop
            go_wp2
            go_roundw
            case rel =>
              refine ⟨k + 1, p ++ [u4 / 4 + u5 % 4 * 64], by go_num, by rw [List.length_append, Hok.out, List.length_singleton]; have := Hk16.out; omega, by have := Hk16.out; omega, .inl h4, ?_, high_step Hu4.out Hu5.out Hok.out Hk16.out Hvp.out, HO2.out, HBh.out.trans HB2.out⟩
              intro x hx
              rcases List.mem_append.1 hx with h | h
              · exact Hp.out x h
              · obtain rfl : x = u4 / 4 + u5 % 4 * 64 := by simpa using h
                have := Hub4.out
                omega
            case measure =>
              simp [intOf]
              omega
          · have h5' : ¬ (k : Int) + 1 < (l.length : Int) := by omega
            have hub4 : (u4 : Int) < 256 := by have := Hub4.out; omega
            clear hcell4 hlt4 hu4
            go_wp2_with (first
              | (at_builtin
                 refine wpList_app_int _ rfl _ _ rfl rfl HOh.out rfl rfl rfl (y := u4 / 4) (congrArg (Value.int .i64) (by omega)) (by have := Hok.out; omega) HBh.out.size ?_
                 intro v2 w2 ho2 hg2 hb2 _
                 have HG := Lib.hid hg2
                 have HO2 := Lib.hid ho2
                 have HB2 := Lib.hid hb2
                 clear hg2 ho2 hb2
                 refine stop ?_)
              | fail)
            unfold Stop
            go_wp2
            go_roundw
            case rel =>
              refine ⟨k + 1, p ++ [u4 / 4], by go_num, by rw [List.length_append, Hok.out, List.length_singleton]; have := Hk16.out; omega, by have := Hk16.out; omega, .inl h4, ?_, high_last Hu4.out h5 Hok.out Hk16.out Hvp.out, HO2.out, HBh.out.trans HB2.out⟩
              intro x hx
              rcases List.mem_append.1 hx with h | h
              · exact Hp.out x h
              · obtain rfl : x = u4 / 4 := by simpa using h
                have := Hub4.out
                omega
            case measure =>
              simp [intOf]
              omega
        · have h4' : ¬ (k : Int) < (l.length : Int) := by omega
          have HVp := Lib.hid (show val p = val l / 1361129467683753853853498429727072845824 from by have h := Hvp.out; rwa [val_drop_none h4, Nat.zero_div, Nat.mul_zero, Nat.add_zero, high_end Hx.out] at h)
          have hOo := Lib.hid (HOo.out.below HBh.out (Nat.le_refl _))
          have hOp := Lib.hid (HOh.out.less HBo.out.size)
          go_wp2
          go_ret2
          exact ⟨_, _, rfl, PartsP.intro hOo.out hOp.out HV.out HVp.out Ho.out Hp.out (by have := Hoi.out; have := Hi17.out; omega) (by have := Hok.out; have := Hkl.out; omega) (nextB HBo.out (Nat.le_refl _) HBh.out)⟩
end Go.Proofs.Ytpllbnioncjhaaa.PRef
namespace Go.Proofs.Ytpllbnioncjhaaa.PRef
open Go.ChangeShapes Go.WideShapes Go.ChangeAt Go.RowKit
set_option maxHeartbeats 1000000 in
theorem zero_any (w : World) {B : Nat} {v : Value} {l : List Nat} (hb : Is w B v l) (hl : l.length ≤ 100000) :
    Calls Try.prog 55 #[v] w fun e w' => e = .returned (.bool (decide (val l = 0))) ∧ Below w.heap.size w w' := by
  obtain ⟨A, c, rfl, hcs⟩ := id hb
  have Hl := Lib.hid hl
  have Hcs := Lib.hid hcs
  obtain ⟨D, hD⟩ : ∃ D, decide (val l = 0) = D := ⟨_, rfl⟩
  rw [hD]
  have HDD := Lib.hid hD
  clear hb hl hcs hD
  go_enter Try.func55, Try.ntmps55
  go_wp2_with fail
  go_loopw [3] (fun vi wr => ∃ i : Nat, i ≤ l.length ∧ vi = .int .i64 (i : Int) ∧ (∀ x ∈ l.take i, x = 0) ∧ w = wr) (fun vi _ => l.length - (intOf vi).toNat)
  case atStart => exact ⟨0, Nat.zero_le _, rfl, by simp, rfl⟩
  case round =>
    obtain ⟨i, hi, rfl, ho, rfl⟩ := hrel
    have Hi := Lib.hid hi
    have HO := Lib.hid ho
    clear hi ho
    by_cases h1 : i < l.length
    · have h1' : (i : Int) < (l.length : Int) := by omega
      obtain ⟨b, off, rfl, hlt, hcell⟩ := Hcs.out (by rintro rfl; simp at h1)
      obtain ⟨u, hu⟩ : ∃ u, l[i]? = some u := ⟨_, List.getElem?_eq_getElem h1⟩
      have hcw := hcell i u hu
      unfold nv at hcw
      have Hu := Lib.hid hu
      have hib : (i : Int) < 100000 := by have := Hl.out; omega
      clear hcell hlt hu
      by_cases hz : u = 0
      · subst hz
        go_wp2
        go_roundw
        case rel =>
          refine ⟨i + 1, h1, by go_num, ?_, by first | trivial | rfl⟩
          intro x hx
          rw [List.take_add_one, Hu.out] at hx
          rcases List.mem_append.1 hx with h | h
          · exact HO.out x h
          · simpa using h
        case measure => simp [intOf]; omega
      · have HD := Lib.hid (show D = false from HDD.out.symm.trans (decide_eq_false (val_pos Hu.out hz)))
        obtain ⟨z, hzu⟩ : ∃ z : Int, (u : Int) = z := ⟨_, rfl⟩
        have hz1 : ¬ z = 0 := by omega
        rw [hzu] at hcw
        have hz2 : (z != 0) = true := by simp [hz1]
        clear hz hzu hz1
        go_upto_if 14 with (fail)
        clear hz2
        go_wp2_with fail
        go_ret
        exact ⟨by have e := HD.out; subst e; rfl, Below.refl _ _⟩
    · have h1' : ¬ (i : Int) < (l.length : Int) := by omega
      have hin : i = l.length := by have := Hi.out; omega
      have HD := Lib.hid (show D = true from HDD.out.symm.trans <| decide_eq_true (val_zero (by have h := HO.out; rwa [hin, List.take_length] at h)))
      clear hin
      go_wp2
      go_ret
      exact ⟨by have e := HD.out; subst e; rfl, Below.refl _ _⟩
end Go.Proofs.Ytpllbnioncjhaaa.PRef
namespace Go.Proofs.Ytpllbnioncjhaaa.PRef
open Go.ChangeShapes Go.WideShapes Go.ChangeAt Go.RowKit
theorem val_set {o : List Nat} {j y x : Nat} (h : o[j]? = some y) : val (o.set j (y + x)) = val o + 256 ^ j * x := by
  induction o generalizing j with
  | nil => simp at h
  | cons z r ih =>
    cases j with
    | zero =>
      simp at h
      subst h
      simp only [List.set_cons_zero, val, Nat.pow_zero, Nat.one_mul]
      omega
    | succ j =>
      simp only [List.set_cons_succ, val]
      rw [ih (j := j) (by simpa using h), Nat.pow_succ, Nat.mul_add, Nat.mul_comm (256 ^ j) 256, Nat.mul_assoc]
      omega
theorem mul_step {o a b : List Nat} {i k x y u : Nat} (h : val o = val (a.take i) * val b + 256 ^ i * x * val (b.take k)) (hy : o[i + k]? = some y) (hu : b[k]? = some u) :
    val (o.set (i + k) (y + x * u)) = val (a.take i) * val b + 256 ^ i * x * val (b.take (k + 1)) := by
  rw [val_set hy, h, val_take_succ hu, Nat.mul_add, Nat.add_assoc, Nat.pow_add]
  congr 2
  rw [Nat.mul_assoc, Nat.mul_assoc, Nat.mul_left_comm x]
theorem mul_round {a b : List Nat} {i x V : Nat} (ha : a[i]? = some x) (h : V = val (a.take i) * val b + 256 ^ i * x * val b) : V = val (a.take (i + 1)) * val b := by
  rw [h, val_take_succ ha, Nat.add_mul]
theorem set_bound {o : List Nat} {j y c M : Nat} (h : ∀ z ∈ o, z ≤ M) (hc : y + c ≤ M + 65025) : ∀ z ∈ o.set j (y + c), z ≤ M + 65025 := by
  intro z hz
  rcases List.mem_or_eq_of_mem_set hz with h1 | h1
  · have := h z h1
    omega
  · omega
/-- 'make([]int, n)'. -/
theorem wpList_make_ints (w : World) {ops : Array Oper} {rest : List Oper} {o : Oper} {a : Act} {Q : Exit → Act → World → Prop}
    (hg : o.guard = none) (l c : Operand) (hop : o.op = Op.makeSlice 59 l c) (n : Nat) (hl : a.eval l = .int .i64 (n : Int)) (hc : a.eval c = .int .i64 (n : Int)) (hn : n ≤ 1000000000)
    (hK : ∀ w', w'.ownsRow w.heap.size 3 1 (.slice (some ⟨w.heap.size, 0, none⟩) n n) n ((List.replicate n 0).map nv) → w.grownBy w' none → wpList Try.prog ops Q rest (a.put o.dst (.slice (some ⟨w.heap.size, 0, none⟩) n n)) w') :
    wpList Try.prog ops Q (o :: rest) a w := by
  obtain ⟨i, hi, hz, hs, hb⟩ := info_int
  refine wpList_make_full w hg l c 59 hop w.heap.size 3 i (.int .i64 0) 1 Try.underlying59 hi hz hs .i64 .i64 _ _ n hl hc rfl rfl (by rw [hb]; omega) (by unfold maxLen; omega) (Nat.le_refl _) fun w' h1 h2 => hK w' ?_ h2
  have h3 := h1
  rw [Nat.mul_one, show (Value.int IntKind.i64 0).cells = #[.int .i64 0] from rfl, toList_madeCells_one] at h3
  rw [List.map_replicate]
  exact h3
theorem row_of_owns {w : World} {g base n : Nat} {xs : List Value} (h : w.ownsRow base 3 1 (.slice (some ⟨g, 0, none⟩) n n) n xs) : Row w g xs 3 := by
  rcases h.2 with ⟨h', _⟩ | ⟨g', cap, cur, h', _, hg, _, _, hcs, ht⟩
  · simp at h'
  · simp only [Value.slice.injEq, Option.some.injEq, Addr.mk.injEq, and_true, true_and] at h'
    obtain ⟨rfl, rfl⟩ := h'
    have hx : cur.toList = xs := by rw [← ht, List.take_of_length_le (by simp [hcs])]
    unfold Row
    rw [hg, ← hx]
theorem row_own {w : World} {g base : Nat} {l : List Nat} (h : Row w g (l.map nv) 3) (hb : base ≤ g) (hl : l.length ≤ 1000000000) : OwnI w base (.slice (some ⟨g, 0, none⟩) l.length l.length) l :=
  ⟨by simp, .inr ⟨g, l.length, _, rfl, hb, h, Nat.le_refl _, by unfold maxLen; omega, by simp, by simp [List.take_of_length_le]⟩⟩
set_option maxRecDepth 100000 in
set_option maxHeartbeats 2000000 in
theorem times_any (w : World) {B : Nat} {v v1 : Value} {a b : List Nat} (hb : Is w B v a) (hb1 : Is w B v1 b) (hB : B ≤ w.heap.size) (hl : a.length ≤ 860) (hl1 : b.length ≤ 100) (hx : ∀ x ∈ a, x < 256) (hx1 : ∀ x ∈ b, x < 256) :
    Calls Try.prog 37 #[v, v1] w fun e w' => ∃ v', e = .returned v' ∧ ∃ l', OwnI w' w.heap.size v' l' ∧ val l' = val a * val b ∧ (∀ x ∈ l', x < 256) ∧ (l'.length ≤ a.length + b.length + 1 ∨ 256 ^ (l'.length - 1) ≤ val a * val b) ∧ Below w.heap.size w w' := by
  obtain ⟨A, cc, rfl, hcs⟩ := id hb
  obtain ⟨A1, cc1, rfl, hcs1⟩ := id hb1
  have Hl := Lib.hid hl
  have Hx := Lib.hid hx
  have Hl1 := Lib.hid hl1
  have Hx1 := Lib.hid hx1
  have Hcs := Lib.hid (show a ≠ [] → ∃ b off, A = some ⟨b, off, none⟩ ∧ b < w.heap.size ∧ ∀ (i : Nat) (u : Nat), a[i]? = some u → w.cell? ⟨b, off + i, none⟩ = some (nv u) from fun h => by
    obtain ⟨b, off, e, h1, h2⟩ := hcs h
    exact ⟨b, off, e, by omega, h2⟩)
  have Hcs1 := Lib.hid (show b ≠ [] → ∃ b_1 off, A1 = some ⟨b_1, off, none⟩ ∧ b_1 < w.heap.size ∧ ∀ (i : Nat) (u : Nat), b[i]? = some u → w.cell? ⟨b_1, off + i, none⟩ = some (nv u) from fun h => by
    obtain ⟨b, off, e, h1, h2⟩ := hcs1 h
    exact ⟨b, off, e, by omega, h2⟩)
  have hla : (a.length : Int) ≤ 860 := by omega
  have hlb : (b.length : Int) ≤ 200 := by omega
  have hn1 : ((a.length : Int) + (b.length : Int) + 1) = ((a.length + b.length + 1 : Nat) : Int) := by omega
  obtain ⟨n, hn⟩ : ∃ n, a.length + b.length + 1 = n := ⟨_, rfl⟩
  have Hn := Lib.hid hn
  have HN1 := Lib.hid hn1
  clear hb hb1 hl hl1 hcs hcs1 hB hx hx1 hn hn1
  go_enter Try.func37, Try.ntmps37
  go_wp2_with (first
    | (refine wpList_make_ints _ rfl _ _ rfl n (by rw [← Hn.out]; exact congrArg (Value.int .i64) (by omega)) (by rw [← Hn.out]; exact congrArg (Value.int .i64) (by omega)) (by have := Hn.out; omega) ?_
       intro w2 ho2 hg2
       refine stop ?_)
    | fail)
  unfold Stop
  obtain ⟨g, hg⟩ : ∃ g, w.heap.size = g := ⟨_, rfl⟩
  have hR2 := row_of_owns ho2
  rw [hg] at hR2 ⊢
  have HR2 := Lib.hid hR2
  have HB2 := Lib.hid (show Below w.heap.size w w2 from (Below.refl _ w).grown hg2 (Nat.le_refl _) (fun k hk => by cases hk))
  have Hg := Lib.hid hg
  clear ho2 hg2 hR2 hg
  go_wp2_with fail
  go_loopw [6] (fun vi wr => ∃ (i : Nat) (o : List Nat), vi = .int .i64 (i : Int) ∧ i ≤ a.length ∧ o.length = n ∧ (∀ x ∈ o, x ≤ 65025 * (i * 200)) ∧ val o = val (a.take i) * val b ∧ Row wr g (o.map nv) 3 ∧ Below w.heap.size w wr) (fun vi _ => a.length - (intOf vi).toNat)
  case atStart =>
    refine ⟨0, List.replicate n 0, rfl, Nat.zero_le _, by simp, ?_, ?_, HR2.out, HB2.out⟩
    · intro x hx
      obtain rfl := List.eq_of_mem_replicate hx
      exact Nat.zero_le _
    · rw [val_zero fun x hx => List.eq_of_mem_replicate hx, List.take_zero]
      show 0 = 0 * val b
      omega
  case round =>
    obtain ⟨i, o, rfl, hia, hon, ho, hv, hr, hbw⟩ := hrel
    have Hia := Lib.hid hia
    have Hon := Lib.hid hon
    have Ho := Lib.hid ho
    have Hv := Lib.hid hv
    have HR := Lib.hid hr
    have HB := Lib.hid hbw
    have hib : (i : Int) ≤ 860 := by have := Hl.out; omega
    clear hia hon ho hv hr hbw
    by_cases h1 : i < a.length
    · have h1' : (i : Int) < (a.length : Int) := by omega
      obtain ⟨x, hx⟩ : ∃ u, a[i]? = some u := ⟨_, List.getElem?_eq_getElem h1⟩
      obtain ⟨ba, offa, rfl, hlta, hcella⟩ := Hcs.out (by rintro rfl; simp at h1)
      have Hca := Lib.hid (hcella i x hx)
      have Hlta := Lib.hid hlta
      have Hxa := Lib.hid hx
      have hxb : (x : Int) ≤ 255 := by have := Hx.out x (List.mem_of_getElem? hx); omega
      clear hcella hlta hx
      go_wp2_with fail
      go_loopw [7] (fun vk wh => ∃ (k : Nat) (p : List Nat), vk = .int .i64 (k : Int) ∧ k ≤ b.length ∧ p.length = n ∧ (∀ z ∈ p, z ≤ 65025 * (i * 200 + k)) ∧ val p = val (a.take i) * val b + 256 ^ i * x * val (b.take k) ∧ Row wh g (p.map nv) 3 ∧ Below w.heap.size w wh) (fun vk _ => b.length - (intOf vk).toNat)
      case atStart => exact ⟨0, o, rfl, Nat.zero_le _, Hon.out, Ho.out, by rw [Hv.out, List.take_zero]; rfl, HR.out, HB.out⟩
      case round =>
        obtain ⟨k, p, rfl, hkb, hpn, hp, hvp, hrp, hbp⟩ := hrel
        have Hkb := Lib.hid hkb
        have Hpn := Lib.hid hpn
        have Hp := Lib.hid hp
        have Hvp := Lib.hid hvp
        have HRp := Lib.hid hrp
        have HBp := Lib.hid hbp
        have hkb2 : (k : Int) ≤ 200 := by have := Hl1.out; omega
        clear hkb hpn hp hvp hrp hbp
        by_cases h2 : k < b.length
        · have h2' : (k : Int) < (b.length : Int) := by omega
          obtain ⟨u, hu⟩ : ∃ u, b[k]? = some u := ⟨_, List.getElem?_eq_getElem h2⟩
          obtain ⟨bb, offb, hA1, hltb, hcellb⟩ := Hcs1.out (by rintro rfl; simp at h2)
          subst hA1
          have hca := (HBp.out.cell (p := ⟨ba, offa + i, none⟩) Hlta.out).trans Hca.out
          have hcb := (HBp.out.cell (p := ⟨bb, offb + k, none⟩) hltb).trans (hcellb k u hu)
          have Hub := Lib.hid hu
          have hub : (u : Int) ≤ 255 := by have := Hx1.out u (List.mem_of_getElem? hu); omega
          obtain ⟨y, hy⟩ : ∃ y, p[i + k]? = some y := ⟨_, List.getElem?_eq_getElem (by have := Hpn.out; have := Hn.out; omega)⟩
          have hyM := Hp.out y (List.mem_of_getElem? hy)
          have hyb : (y : Int) ≤ 11300000000 := by omega
          have hcy := HRp.out.cell (i := i + k) (v := nv y) (by rw [List.getElem?_map, hy]; rfl)
          have hfr := frozen_row HRp.out (i + k)
          have hxu : x * u ≤ 65025 := Nat.mul_le_mul (show x ≤ 255 by omega) (show u ≤ 255 by omega)
          obtain ⟨q, hq⟩ : ∃ q : Nat, x * u = q := ⟨_, rfl⟩
          have hq1 : (x : Int) * (u : Int) = (q : Int) := by rw [← hq]; exact (Int.natCast_mul x u).symm
          have hqb : (q : Int) ≤ 65025 := by omega
          have hik : (i : Int) + (k : Int) < (n : Int) := by have := Hn.out; omega
          have Hq := Lib.hid hq
          have Hy := Lib.hid hy
          unfold nv at hca hcb hcy
          clear hltb hcellb hu hyM hxu hq hy
          go_wp2_with fail
          go_region
          go_wp2
          go_roundw
          case rel =>
            refine ⟨k + 1, p.set (i + k) (y + x * u), by go_num, h2, by rw [List.length_set]; exact Hpn.out, ?_, mul_step Hvp.out Hy.out Hub.out, ?_, ?_⟩
            · have := set_bound (o := p) (j := i + k) (y := y) (c := x * u) Hp.out (by rw [Hq.out]; have := Hp.out y (List.mem_of_getElem? Hy.out); omega)
              intro z hz
              have := this z hz
              omega
            · refine Row.same ((HRp.out.set (i + k) (.int .i64 ((y : Int) + (q : Int)))).drewN 1) ?_
              rw [List.map_set]
              refine congrArg (List.set _ (i + k)) (congrArg (Value.int .i64) ?_)
              rw [Hq.out]
              omega
            · exact (HBp.out.setCell (p := ⟨g, i + k, none⟩) (Nat.le_of_eq Hg.out) _).drew
          case measure =>
            simp [intOf]
            omega
        · have h2' : ¬ (k : Int) < (b.length : Int) := by omega
          obtain rfl : k = b.length := by have := Hkb.out; omega
          go_wp2
          go_roundw
          case rel =>
            refine ⟨i + 1, p, by go_num, h1, Hpn.out, ?_, ?_, HRp.out, HBp.out⟩
            · intro z hz
              have := Hp.out z hz
              have := Hl1.out
              omega
            · refine mul_round Hxa.out ?_
              have h := Hvp.out
              rwa [List.take_length] at h
          case measure =>
            simp [intOf]
            omega
    · have h1' : ¬ (i : Int) < (a.length : Int) := by omega
      have HV := Lib.hid (show val o = val a * val b from by have h := Hv.out; rwa [List.take_of_length_le (by omega)] at h)
      have HI := Lib.hid (show Is wr wr.heap.size (.slice (some ⟨g, 0, none⟩) n n) o from by
        have h := (row_own HR.out (Nat.le_refl g) (by have := Hon.out; have := Hn.out; have := Hl.out; have := Hl1.out; omega)).is
        rwa [Hon.out] at h)
      have HM := Lib.hid (show ∀ z ∈ o, z ≤ 281474976710656 from fun z hz => by have := Ho.out z hz; omega)
      go_wp2_with fail
      refine (plain_any wr HI.out (Nat.le_refl _) (by have := Hon.out; have := Hn.out; have := Hl.out; have := Hl1.out; omega) HM.out).mono ?_
      rintro e w3 ⟨v3, rfl, l3, ho3, hv3, hx3, hl3, hb3⟩
      have HO3 := Lib.hid ho3
      have HB3 := Lib.hid hb3
      have HX3 := Lib.hid hx3
      have HL3 := Lib.hid hl3
      have HV3 := Lib.hid hv3
      clear ho3 hb3 hx3 hl3 hv3
      go_wp2
      go_ret
      exact ⟨_, rfl, l3, HO3.out.less HB.out.size, HV3.out.trans HV.out, HX3.out, HL3.out.elim (fun h => .inl (by have := Hon.out; have := Hn.out; omega)) (fun h => .inr (HV.out ▸ h)), nextB HB.out (Nat.le_refl _) HB3.out⟩
end Go.Proofs.Ytpllbnioncjhaaa.PRef
namespace Go.Proofs.Ytpllbnioncjhaaa.PRef
open Go.ChangeShapes Go.WideShapes Go.ChangeAt Go.RowKit
/-- What the numbers behind a slice are worth, read out of the memory. -/
def valAt (w : World) (v : Value) : Nat :=
  match v with
  | .slice (some a) n _ => val ((List.range n).map fun j => (intOf ((w.cell? ⟨a.block, a.off + j, none⟩).getD undef)).toNat)
  | _ => 0
theorem Is.valAt {w : World} {B : Nat} {v : Value} {l : List Nat} (h : Is w B v l) : valAt w v = val l := by
  obtain ⟨A, c, rfl, hcs⟩ := h
  by_cases hl : l = []
  · subst hl
    cases A <;> rfl
  · obtain ⟨b, off, rfl, _, hc⟩ := hcs hl
    show val _ = val l
    congr 1
    apply List.ext_getElem?
    intro j
    by_cases hj : j < l.length
    · rw [List.getElem?_map, List.getElem?_range hj, List.getElem?_eq_getElem hj]
      have := hc j l[j] (List.getElem?_eq_getElem hj)
      simp only [Option.map_some, this, Option.getD_some]
      simp [nv, intOf]
    · rw [List.getElem?_eq_none (by simp; omega), List.getElem?_eq_none (by omega)]
theorem red_mod (V : Nat) : (V % 1361129467683753853853498429727072845824 + V / 1361129467683753853853498429727072845824 * 5) % 1361129467683753853853498429727072845819 = V % 1361129467683753853853498429727072845819 := by omega
theorem red_less {V : Nat} (h : V / 1361129467683753853853498429727072845824 ≠ 0) : V % 1361129467683753853853498429727072845824 + V / 1361129467683753853853498429727072845824 * 5 < V := by omega
theorem last_red {V : Nat} (h : V < 1361129467683753853853498429727072845824) (hz : (V + 5) / 1361129467683753853853498429727072845824 ≠ 0) :
    (V + 5) % 1361129467683753853853498429727072845824 = V % 1361129467683753853853498429727072845819 := by
  have h1 : (V + 5) / 1361129467683753853853498429727072845824 = 1 := by omega
  have h2 : V / 1361129467683753853853498429727072845819 = 1 := by omega
  omega
theorem pow_lt_le {a b : Nat} (h : 256 ^ a < 256 ^ b) : a < b := (Nat.pow_lt_pow_iff_right (by decide)).1 h
/-- A sum has one digit more at most. -/
theorem sum_len {L A B V W m : Nat} (h : L ≤ A + 1 ∨ L ≤ B + 1 ∨ 256 ^ (L - 1) ≤ V + W) (hV : V < 256 ^ A) (hW : W < 256 ^ B) (hA : A ≤ m) (hB : B ≤ m) : L ≤ m + 2 := by
  rcases h with h | h | h
  · omega
  · omega
  · have h1 : (256 : Nat) ^ A ≤ 256 ^ m := Nat.pow_le_pow_right (by decide) hA
    have h2 : (256 : Nat) ^ B ≤ 256 ^ m := Nat.pow_le_pow_right (by decide) hB
    have h3 : (256 : Nat) ^ (m + 1) = 256 ^ m * 256 := Nat.pow_succ ..
    have h4 := pow_lt_le (a := L - 1) (b := m + 1) (by omega)
    omega
/-- A product has as many digits as both at most, and one. -/
theorem mul_len {L A B V W : Nat} (h : L ≤ A + B + 1 ∨ 256 ^ (L - 1) ≤ V * W) (hV : V < 256 ^ A) (hW : W < 256 ^ B) : L ≤ A + B + 1 := by
  rcases h with h | h
  · exact h
  · have h1 : V * W < 256 ^ A * 256 ^ B := Nat.mul_lt_mul'' hV hW
    rw [← Nat.pow_add] at h1
    have := pow_lt_le (Nat.lt_of_le_of_lt h h1)
    omega
theorem is5 (w : World) : Is (w.alloc (.cells #[.int .i64 5] 3)) (w.heap.size + 1) (.slice (some ⟨w.heap.size, 0, none⟩) 1 1) [5] := by
  refine ⟨_, _, rfl, fun _ => ⟨w.heap.size, 0, rfl, Nat.lt_succ_self _, fun i u hu => ?_⟩⟩
  match i, hu with
  | 0, hu =>
    obtain rfl : 5 = u := by simpa using hu
    exact (Row.new (w := w) (cs := [.int .i64 5]) (t := 3) rfl rfl).cell (i := 0) rfl
  | i + 1, hu => simp at hu
set_option maxRecDepth 100000 in
set_option maxHeartbeats 2000000 in
theorem reduce_any (w : World) {B : Nat} {v : Value} {l : List Nat} (hb : Is w B v l) (hB : B ≤ w.heap.size) (hl : l.length ≤ 860) (hx : ∀ x ∈ l, x < 256) :
    Calls Try.prog 36 #[v] w fun e w' => ∃ v', e = .returned v' ∧ ∃ l', Is w' w'.heap.size v' l' ∧ val l' = val l % 1361129467683753853853498429727072845819 ∧ (∀ x ∈ l', x < 256) ∧ (l'.length ≤ 20 ∨ l'.length ≤ l.length) ∧ Below w.heap.size w w' := by
  obtain ⟨A, cc, rfl⟩ := hb.shape
  have HI := Lib.hid (hb.more hB)
  have Hl := Lib.hid hl
  have Hx := Lib.hid hx
  clear hb hB hl hx
  go_enter Try.func36, Try.ntmps36
  go_wp2_with fail
  go_loopw [0] (fun vn wr => ∃ n, Is wr wr.heap.size vn n ∧ (∀ x ∈ n, x < 256) ∧ (n.length ≤ 20 ∨ n.length ≤ l.length) ∧ val n % 1361129467683753853853498429727072845819 = val l % 1361129467683753853853498429727072845819 ∧ Below w.heap.size w wr) (fun vn wr => valAt wr vn)
  case atStart => exact ⟨l, HI.out, Hx.out, .inr (Nat.le_refl _), rfl, Below.refl _ _⟩
  case round =>
    obtain ⟨n, hn, hx, hlen, hmod, hb⟩ := hrel
    obtain ⟨An, cn, rfl⟩ := hn.shape
    have HN := Lib.hid hn
    have HXn := Lib.hid hx
    have Hlen := Lib.hid hlen
    have Hmod := Lib.hid hmod
    have HB := Lib.hid hb
    have Hn7 := Lib.hid (show n.length ≤ 860 from by have := Hl.out; omega)
    clear hn hx hlen hmod hb
    go_wp2_with fail
    refine (parts_any wr HN.out (Nat.le_refl _) (by have := Hn7.out; omega) HXn.out).mono ?_
    rintro e w1 ⟨v0, v1, rfl, hp⟩
    unfold PartsP at hp
    obtain ⟨lo, hi, hlo, hhi, hvlo, hvhi, hxlo, hxhi, hllo, hlhi, hb1⟩ := hp
    obtain ⟨A0, c0, rfl⟩ := hlo.is.shape
    obtain ⟨A1, c1, rfl⟩ := hhi.is.shape
    have HLO := Lib.hid hlo.is
    have HHI := Lib.hid hhi.is
    have Hvlo := Lib.hid hvlo
    have Hvhi := Lib.hid hvhi
    have Hxlo := Lib.hid hxlo
    have Hxhi := Lib.hid hxhi
    have Hllo := Lib.hid hllo
    have Hlhi := Lib.hid hlhi
    have HB1 := Lib.hid (nextB HB.out (Nat.le_refl _) hb1)
    have HN1 := Lib.hid ((HN.out.below hb1).more hb1.size)
    clear hlo hhi hvlo hvhi hxlo hxhi hllo hlhi hb1
    go_wp2_with fail
    refine (zero_any w1 HHI.out (by have := Hlhi.out; have := Hn7.out; omega)).mono ?_
    rintro e w2 ⟨rfl, hb2⟩
    have HB2 := Lib.hid (nextB HB1.out (Nat.le_refl _) hb2)
    have HLO2 := Lib.hid ((HLO.out.below hb2).more hb2.size)
    have HHI2 := Lib.hid ((HHI.out.below hb2).more hb2.size)
    have HN2 := Lib.hid ((HN1.out.below hb2).more hb2.size)
    clear hb2
    have hal : Below w2.heap.size w2 (w2.alloc (.cells #[.int .i64 5] 3)) := (Below.refl _ w2).alloc (Nat.le_refl _) _
    have Hal := Lib.hid hal
    have Hsz := Lib.hid (show w2.heap.size + 1 ≤ (w2.alloc (.cells #[.int .i64 5] 3)).heap.size by simp)
    have H5 := Lib.hid (is5 w2)
    clear hal
    by_cases hz : val hi = 0
    · rw [show decide (val hi = 0) = true from decide_eq_true hz]
      have Hz := Lib.hid hz
      clear hz
      go_wp2_with fail
      refine (add_any _ ((HN2.out.below Hal.out).more (Nat.le_succ _)) H5.out Hsz.out (by have := Hn7.out; omega) (by decide) (fun x hx => by have := HXn.out x hx; omega) (by simp)).mono ?_
      rintro e w3 ⟨v3, rfl, l3, ho3, hv3, hx3, hl3, hb3⟩
      obtain ⟨A3, c3, rfl⟩ := ho3.is.shape
      have HO3 := Lib.hid ho3.is
      have HV3 := Lib.hid (show val l3 = val n + 5 from hv3)
      have HX3 := Lib.hid hx3
      have HL3 := Lib.hid (sum_len (m := max n.length 1) hl3 (val_lt HXn.out) (show val [5] < 256 ^ [5].length by decide) (by omega) (by simp; omega))
      have hb23 := Hal.out.trans (hb3.mono (Nat.le_trans (Nat.le_succ _) Hsz.out))
      have HB3 := Lib.hid (nextB HB2.out (Nat.le_refl _) hb23)
      have HN3 := Lib.hid ((HN2.out.below hb23).more hb23.size)
      clear ho3 hv3 hx3 hl3 hb3 hb23
      go_wp2_with fail
      refine (parts_any w3 HO3.out (Nat.le_refl _) (by have := HL3.out; have := Hn7.out; omega) HX3.out).mono ?_
      rintro e w4 ⟨v4, v5, rfl, hp⟩
      unfold PartsP at hp
      obtain ⟨lo4, hi4, hlo, hhi, hvlo, hvhi, hxlo, hxhi, hllo, hlhi, hb4⟩ := hp
      obtain ⟨A4, c4, rfl⟩ := hlo.is.shape
      obtain ⟨A5, c5, rfl⟩ := hhi.is.shape
      have HLO4 := Lib.hid hlo.is
      have HHI4 := Lib.hid hhi.is
      have Hvlo4 := Lib.hid hvlo
      have Hvhi4 := Lib.hid hvhi
      have Hxlo4 := Lib.hid hxlo
      have Hllo4 := Lib.hid hllo
      have Hlhi4 := Lib.hid hlhi
      have HB4 := Lib.hid (nextB HB3.out (Nat.le_refl _) hb4)
      have HN4 := Lib.hid ((HN3.out.below hb4).more hb4.size)
      clear hlo hhi hvlo hvhi hxlo hxhi hllo hlhi hb4
      go_wp2_with fail
      refine (zero_any w4 HHI4.out (by have := Hlhi4.out; have := HL3.out; have := Hn7.out; omega)).mono ?_
      rintro e w5 ⟨rfl, hb5⟩
      have HB5 := Lib.hid (nextB HB4.out (Nat.le_refl _) hb5)
      have HLO5 := Lib.hid ((HLO4.out.below hb5).more hb5.size)
      have HN5 := Lib.hid ((HN4.out.below hb5).more hb5.size)
      have HNV := Lib.hid (show val n < 1361129467683753853853498429727072845824 from by have h := Hvhi.out; rw [Hz.out] at h; omega)
      clear hb5
      by_cases hz4 : val hi4 = 0
      · rw [show decide (val hi4 = 0) = true from decide_eq_true hz4]
        have HE := Lib.hid (show val n = val l % 1361129467683753853853498429727072845819 from by rw [← Hmod.out]; have h := Hvhi4.out; rw [hz4, HV3.out] at h; have := HNV.out; omega)
        clear hz4
        go_wp2
        go_ret
        exact ⟨_, rfl, n, HN5.out, HE.out, HXn.out, Hlen.out, HB5.out⟩
      · rw [show decide (val hi4 = 0) = false from decide_eq_false hz4]
        have HE := Lib.hid (show val lo4 = val l % 1361129467683753853853498429727072845819 from by
          rw [← Hmod.out, Hvlo4.out, HV3.out]
          have h := Hvhi4.out
          rw [HV3.out] at h
          exact last_red HNV.out (by rw [← h]; exact hz4))
        clear hz4
        go_wp2
        go_ret
        exact ⟨_, rfl, lo4, HLO5.out, HE.out, Hxlo4.out, .inl (by have := Hllo4.out; omega), HB5.out⟩
    · rw [show decide (val hi = 0) = false from decide_eq_false hz]
      have Hz := Lib.hid hz
      clear hz
      go_wp2_with fail
      refine (times_any _ ((HHI2.out.below Hal.out).more (Nat.le_succ _)) H5.out Hsz.out (by have := Hlhi.out; have := Hn7.out; omega) (by decide) Hxhi.out (by simp)).mono ?_
      rintro e w3 ⟨v3, rfl, l3, ho3, hv3, hx3, hl3, hb3⟩
      obtain ⟨A3, c3, rfl⟩ := ho3.is.shape
      have HO3 := Lib.hid ho3.is
      have HV3 := Lib.hid (show val l3 = val hi * 5 from hv3)
      have HX3 := Lib.hid hx3
      have HL3 := Lib.hid (mul_len hl3 (val_lt Hxhi.out) (show val [5] < 256 ^ [5].length by decide))
      have hb23 := Hal.out.trans (hb3.mono (Nat.le_trans (Nat.le_succ _) Hsz.out))
      have HB3 := Lib.hid (nextB HB2.out (Nat.le_refl _) hb23)
      have HLO3 := Lib.hid ((HLO2.out.below hb23).more hb23.size)
      clear ho3 hv3 hx3 hl3 hb3 hb23
      go_wp2_with fail
      refine (add_any w3 HLO3.out HO3.out (Nat.le_refl _) (by have := Hllo.out; omega) (by have := HL3.out; have := Hlhi.out; have := Hn7.out; simp at *; omega) (fun x hx => by have := Hxlo.out x hx; omega) (fun x hx => by have := HX3.out x hx; omega)).mono ?_
      rintro e w4 ⟨v4, rfl, l4, ho4, hv4, hx4, hl4, hb4⟩
      have HO4 := Lib.hid ho4.is
      have HV4 := Lib.hid (show val l4 = val n % 1361129467683753853853498429727072845824 + val n / 1361129467683753853853498429727072845824 * 5 from by rw [hv4, HV3.out, Hvlo.out, Hvhi.out])
      have HX4 := Lib.hid hx4
      have HL4 := Lib.hid (sum_len (m := max 17 (hi.length + 2)) hl4 (val_lt Hxlo.out) (val_lt HX3.out) (by have := Hllo.out; omega) (by have := HL3.out; simp at *; omega))
      have HB4 := Lib.hid (nextB HB3.out (Nat.le_refl _) hb4)
      have Hm := Lib.hid (HN.out.valAt)
      clear ho4 hv4 hx4 hl4 hb4
      go_wp2
      go_roundw
      case rel => exact ⟨l4, HO4.out, HX4.out, by have := HL4.out; have := Hlhi.out; have := Hlen.out; omega, by rw [HV4.out, red_mod]; exact Hmod.out, HB4.out⟩
      case measure =>
        rw [HO4.out.valAt, Hm.out, HV4.out]
        exact red_less (by rw [← Hvhi.out]; exact Hz.out)
end Go.Proofs.Ytpllbnioncjhaaa.PRef
