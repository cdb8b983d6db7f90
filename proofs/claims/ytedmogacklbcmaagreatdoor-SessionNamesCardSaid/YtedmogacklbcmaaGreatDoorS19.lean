/- Texts that the proofs share: KitBase, W32, Kit, ShaPure, Sym, ChaStream. -/
import Derived.Test.YtedmogacklbcmaaGreatDoorS11
import Derived.Test.YtedmogacklbcmaaGreatDoorS16
import Derived.Test.YtedmogacklbcmaaGreatDoorS18
import Derived.Lib.Hide
import Derived.Outline
import Derived.WalkKit
import Derived.Laws.IdiomStrings
import Derived.Great.BuildSlice
import Derived.IntWalk
import Derived.KernelRfl
namespace Go.Proofs.YtedmogacklbcmaaGreatDoor
open Go.RowKit
def strOf (l : List UInt8) : Value := .string ⟨l.toArray⟩
theorem run_str (w : World) {B : Nat} {v : Value} {l : List UInt8} (h : Bs w B v l) : (convert 38 9 v).run Tryz.prog w = .ok (strOf l) w := by
 obtain ⟨A, c, rfl, hc, hcs⟩ := h
 by_cases hne : l = []
 · subst hne
   cases A with
   | none =>
     rw [run_convert_bytes_string w _ _ 5 none _ _ Tryz.underlying38 Tryz.underlying5 Tryz.underlying9]
     rfl
   | some a =>
     have := run_convert_bytes_back (P := Tryz.prog) w 38 9 5 a c [] Tryz.underlying38 Tryz.underlying5 Tryz.underlying9 (fun j hj => by simp at hj)
     exact this
 · obtain ⟨b, off, rfl, _, h3⟩ := hcs hne
   exact run_convert_bytes_back (P := Tryz.prog) w 38 9 5 ⟨b, off, none⟩ c l Tryz.underlying38 Tryz.underlying5 Tryz.underlying9 (fun j hj => by
    rw [show (⟨b, off, none⟩ : Addr).add j = ⟨b, off + j, none⟩ by unfold Addr.add; split <;> simp_all]
    exact h3 j _ (List.getElem?_eq_getElem hj))
def ownM (lo : Nat) (l : List UInt8) : By.Mark Grew := ⟨fun v w => Own w lo v l, fun _ _ _ h k => h.below k (Nat.le_refl _)⟩
end Go.Proofs.YtedmogacklbcmaaGreatDoor
namespace Go.Proofs.YtedmogacklbcmaaGreatDoor
open Go.RowKit
abbrev wv (x : BitVec 32) : Value := .int .u32 (x.toNat : Int)
theorem wrap_u32_lt (n : Nat) (h : n < 4294967296) : IntKind.u32.wrap (n : Int) = (n : Int) := by
 simp only [IntKind.wrap, IntKind.bits, IntKind.signed]
 simp
 omega
theorem w_or (x y : BitVec 32) : bits .or .u32 (x.toNat : Int) (y.toNat : Int) = ((x ||| y).toNat : Int) := by
 show IntKind.u32.wrap ((BitVec.ofInt 32 (x.toNat : Int) ||| BitVec.ofInt 32 (y.toNat : Int)).toNat : Int) = _
 simp only [BitVec.ofInt_natCast, BitVec.ofNat_toNat, BitVec.setWidth_eq]
 exact wrap_u32_lt _ (x ||| y).isLt
theorem w_xor (x y : BitVec 32) : bits .xor .u32 (x.toNat : Int) (y.toNat : Int) = ((x ^^^ y).toNat : Int) := by
 show IntKind.u32.wrap ((BitVec.ofInt 32 (x.toNat : Int) ^^^ BitVec.ofInt 32 (y.toNat : Int)).toNat : Int) = _
 simp only [BitVec.ofInt_natCast, BitVec.ofNat_toNat, BitVec.setWidth_eq]
 exact wrap_u32_lt _ (x ^^^ y).isLt
theorem w_and (x y : BitVec 32) : bits .and .u32 (x.toNat : Int) (y.toNat : Int) = ((x &&& y).toNat : Int) := by
 show IntKind.u32.wrap ((BitVec.ofInt 32 (x.toNat : Int) &&& BitVec.ofInt 32 (y.toNat : Int)).toNat : Int) = _
 simp only [BitVec.ofInt_natCast, BitVec.ofNat_toNat, BitVec.setWidth_eq]
 exact wrap_u32_lt _ (x &&& y).isLt
theorem w_add (x y : BitVec 32) : ((x.toNat : Int) + (y.toNat : Int)) % (4294967296 : Int) = ((x + y).toNat : Int) := by
 rw [BitVec.toNat_add]
 omega
theorem w_shl (x : BitVec 32) (n : Nat) : ((x.toNat : Int) * ((2 ^ n : Nat) : Int)) % (4294967296 : Int) = ((x <<< n).toNat : Int) := by
 rw [BitVec.toNat_shiftLeft, Nat.shiftLeft_eq]
 omega
theorem w_shr (x : BitVec 32) (n : Nat) : (x.toNat : Int) / ((2 ^ n : Nat) : Int) = ((x >>> n).toNat : Int) := by
 rw [BitVec.toNat_ushiftRight, Nat.shiftRight_eq_div_pow]
 omega
theorem w_shl7 (x : BitVec 32) : (x.toNat : Int) * (128 : Int) % (4294967296 : Int) = ((x <<< 7).toNat : Int) := w_shl x 7
theorem w_shl8 (x : BitVec 32) : (x.toNat : Int) * (256 : Int) % (4294967296 : Int) = ((x <<< 8).toNat : Int) := w_shl x 8
theorem w_shl12 (x : BitVec 32) : (x.toNat : Int) * (4096 : Int) % (4294967296 : Int) = ((x <<< 12).toNat : Int) := w_shl x 12
theorem w_shl16 (x : BitVec 32) : (x.toNat : Int) * (65536 : Int) % (4294967296 : Int) = ((x <<< 16).toNat : Int) := w_shl x 16
theorem w_shl24 (x : BitVec 32) : (x.toNat : Int) * (16777216 : Int) % (4294967296 : Int) = ((x <<< 24).toNat : Int) := w_shl x 24
theorem w_shr8 (x : BitVec 32) : (x.toNat : Int) / (256 : Int) = ((x >>> 8).toNat : Int) := w_shr x 8
theorem w_shr16 (x : BitVec 32) : (x.toNat : Int) / (65536 : Int) = ((x >>> 16).toNat : Int) := w_shr x 16
theorem w_shr20 (x : BitVec 32) : (x.toNat : Int) / (1048576 : Int) = ((x >>> 20).toNat : Int) := w_shr x 20
theorem w_shr24 (x : BitVec 32) : (x.toNat : Int) / (16777216 : Int) = ((x >>> 24).toNat : Int) := w_shr x 24
theorem w_shr25 (x : BitVec 32) : (x.toNat : Int) / (33554432 : Int) = ((x >>> 25).toNat : Int) := w_shr x 25
def wb (u : UInt8) : BitVec 32 := BitVec.ofNat 32 u.toNat
theorem w_byte (u : UInt8) : (u.toNat : Int) = ((wb u).toNat : Int) := by
 have := u.toNat_lt
 simp only [wb, BitVec.toNat_ofNat]
 omega
theorem w_wb (c : UInt8) : (c.toNat : Int) % 4294967296 = ((wb c).toNat : Int) := by
 have := c.toNat_lt
 simp only [wb, BitVec.toNat_ofNat]
 omega
theorem results_tmp4 {fn : Func} {t u v x : Tmp} (h : fn.results = #[.tmp t, .tmp u, .tmp v, .tmp x]) (tmps : Array Value) (P : Program) (w : World) :
 (results fn tmps).run P w = .ok (.tuple #[tmps.getD t undef, tmps.getD u undef, tmps.getD v undef, tmps.getD x undef]) w := by
 simp [results, h]
end Go.Proofs.YtedmogacklbcmaaGreatDoor
namespace Go.Proofs.YtedmogacklbcmaaGreatDoor
open Go.RowKit
theorem own_new (w : World) : Own (w.alloc (.cells #[] 5)) w.heap.size (.slice (some ⟨w.heap.size, 0, none⟩) 0 0) [] :=
 ⟨rfl, .inr ⟨w.heap.size, 0, #[], rfl, Nat.le_refl _, heap_alloc_new w _, Nat.le_refl _, by simp, by decide, by simp⟩⟩
theorem Own_any (b : Value) (l : List UInt8) (w : World) (hb : Bs w w.heap.size b l) (hl : l.length ≤ 140737488355327) : Calls Tryz.prog 18 #[b] w fun e w' => ∃ v, e = .returned v ∧ Own w' w.heap.size v l ∧ Below w.heap.size w w' := by
 have Hb := Lib.hid hb
 clear hb
 have ho := own_new w
 have Ho := Lib.hid ho
 clear ho
 go_enter Tryz.func18, Tryz.ntmps18
 go_wp2_with (at_builtin; refine wpList_app_bytes _ rfl _ _ rfl rfl (l := []) Ho.out rfl (Hb.out.alloc (Nat.le_refl _) _) (by simpa using hl) (by simp) ?_; intro v2 w2 hown2 hg2 hblk2)
 go_ret
 exact ⟨v2, rfl, by simpa using hown2, ((Below.refl _ w).alloc (Nat.le_refl _) _).grown hg2 (by simp) (fun k hk => by have hk' : some w.heap.size = some k := hk; injection hk' with hk'; omega)⟩
end Go.Proofs.YtedmogacklbcmaaGreatDoor
namespace Go.Proofs.YtedmogacklbcmaaGreatDoor
namespace Sha
abbrev Wd := BitVec 32
def rotr (x : Wd) (n : Nat) : Wd := x <<< (32 - n) ||| x >>> n
def K : List Wd := [0x428a2f98#32, 0x71374491#32, 0xb5c0fbcf#32, 0xe9b5dba5#32, 0x3956c25b#32, 0x59f111f1#32, 0x923f82a4#32, 0xab1c5ed5#32, 0xd807aa98#32, 0x12835b01#32, 0x243185be#32, 0x550c7dc3#32, 0x72be5d74#32, 0x80deb1fe#32, 0x9bdc06a7#32, 0xc19bf174#32, 0xe49b69c1#32, 0xefbe4786#32, 0x0fc19dc6#32, 0x240ca1cc#32, 0x2de92c6f#32, 0x4a7484aa#32, 0x5cb0a9dc#32, 0x76f988da#32, 0x983e5152#32, 0xa831c66d#32, 0xb00327c8#32, 0xbf597fc7#32, 0xc6e00bf3#32, 0xd5a79147#32, 0x06ca6351#32, 0x14292967#32, 0x27b70a85#32, 0x2e1b2138#32, 0x4d2c6dfc#32, 0x53380d13#32, 0x650a7354#32, 0x766a0abb#32, 0x81c2c92e#32, 0x92722c85#32, 0xa2bfe8a1#32, 0xa81a664b#32, 0xc24b8b70#32, 0xc76c51a3#32, 0xd192e819#32, 0xd6990624#32, 0xf40e3585#32, 0x106aa070#32, 0x19a4c116#32, 0x1e376c08#32, 0x2748774c#32, 0x34b0bcb5#32, 0x391c0cb3#32, 0x4ed8aa4a#32, 0x5b9cca4f#32, 0x682e6ff3#32, 0x748f82ee#32, 0x78a5636f#32, 0x84c87814#32, 0x8cc70208#32, 0x90befffa#32, 0xa4506ceb#32, 0xbef9a3f7#32, 0xc67178f2#32]
def at_ (s : List Wd) (i : Nat) : Wd := s.getD i 0#32
def s0 (x : Wd) : Wd := rotr x 7 ^^^ rotr x 18 ^^^ x >>> 3
def s1 (x : Wd) : Wd := rotr x 17 ^^^ rotr x 19 ^^^ x >>> 10
def S0 (x : Wd) : Wd := rotr x 2 ^^^ rotr x 13 ^^^ rotr x 22
def S1 (x : Wd) : Wd := rotr x 6 ^^^ rotr x 11 ^^^ rotr x 25
def next (w : List Wd) (i : Nat) : Wd := s1 (at_ w (i + 14)) + at_ w (i + 9) + s0 (at_ w (i + 1)) + at_ w i
def sched (m : List Wd) : Nat → List Wd
 | 0 => m ++ List.replicate 48 0#32
 | i + 1 => (sched m i).set (16 + i) (next (sched m i) i)
structure St where
 a : Wd
 b : Wd
 c : Wd
 d : Wd
 e : Wd
 f : Wd
 g : Wd
 h : Wd
def tOf (s : St) (k w : Wd) : Wd := s.h + S1 s.e + (s.e &&& s.f ^^^ ~~~ s.e &&& s.g) + k + w
def uOf (s : St) : Wd := S0 s.a + (s.a &&& s.b ^^^ s.a &&& s.c ^^^ s.b &&& s.c)
def rnd (s : St) (k w : Wd) : St := ⟨tOf s k w + uOf s, s.a, s.b, s.c, s.d + tOf s k w, s.e, s.f, s.g⟩
def rnds (w : List Wd) (s : St) : Nat → St
 | 0 => s
 | i + 1 => rnd (rnds w s i) (at_ K i) (at_ w i)
def St.toList (s : St) : List Wd := [s.a, s.b, s.c, s.d, s.e, s.f, s.g, s.h]
def ofList (s : List Wd) : St := ⟨at_ s 0, at_ s 1, at_ s 2, at_ s 3, at_ s 4, at_ s 5, at_ s 6, at_ s 7⟩
def comp (s m : List Wd) : List Wd := List.zipWith (· + ·) s (rnds (sched m 48) (ofList s) 64).toList
def put (B : List Wd) (n : Nat) (c : UInt8) : List Wd := B.set (n / 4) (at_ B (n / 4) <<< 8 ||| wb c)
def feed : List Wd → Nat → List UInt8 → List Wd
 | B, _, [] => B
 | B, n, c :: l => feed (put B n c) (n + 1) l
def zeros16 : List Wd := List.replicate 16 0#32
def words (l : List UInt8) : List Wd := feed zeros16 0 (l.take 64)
def blocks : Nat → List Wd → List UInt8 → List Wd
 | 0, s, _ => s
 | n + 1, s, l => blocks n (comp s (words l)) (l.drop 64)
def byteOf (x : Wd) (j : Nat) : UInt8 := UInt8.ofNat ((x >>> (24 - 8 * j)).toNat % 256)
def start : List Wd := [0x6a09e667#32, 0xbb67ae85#32, 0x3c6ef372#32, 0xa54ff53a#32, 0x510e527f#32, 0x9b05688c#32, 0x1f83d9ab#32, 0x5be0cd19#32]
def zerosOf (n : Nat) : Nat := (119 - n % 64) % 64
def lenByte (n i : Nat) : UInt8 := UInt8.ofNat (n * 8 / 2 ^ (8 * i) % 256)
def pad (n : Nat) : List UInt8 := 0x80 :: (List.replicate (zerosOf n) 0 ++ [lenByte n 7, lenByte n 6, lenByte n 5, lenByte n 4, lenByte n 3, lenByte n 2, lenByte n 1, lenByte n 0])
def outOf (s : List Wd) : List UInt8 := s.flatMap fun x => [byteOf x 0, byteOf x 1, byteOf x 2, byteOf x 3]
def full (l : List UInt8) : List UInt8 := l ++ pad l.length
def sum (l : List UInt8) : List UInt8 := outOf (blocks ((full l).length / 64) start (full l))
def masked (key : List UInt8) (m : UInt8) : List UInt8 := (key ++ List.replicate (64 - key.length) 0).map (m ^^^ ·)
def short (key : List UInt8) : List UInt8 := if 64 < key.length then sum key else key
def mac (key l : List UInt8) : List UInt8 := sum (masked (short key) 0x5c ++ sum (masked (short key) 0x36 ++ l))
theorem sched_length (m : List Wd) (i : Nat) : (sched m i).length = m.length + 48 := by
 induction i with
 | zero => simp [sched]
 | succ i ih => rw [sched, List.length_set, ih]
theorem comp_length (s m : List Wd) (h : s.length = 8) : (comp s m).length = 8 := by
 rw [comp, List.length_zipWith, h]
 rfl
theorem put_length (B : List Wd) (n : Nat) (c : UInt8) : (put B n c).length = B.length := by rw [put, List.length_set]
theorem feed_length : ∀ (l : List UInt8) (B : List Wd) (n : Nat), (feed B n l).length = B.length := by
 intro l
 induction l with
 | nil => intro B n; rfl
 | cons c l ih => intro B n; rw [feed, ih, put_length]
theorem feed_append : ∀ (l m : List UInt8) (B : List Wd) (n : Nat), feed B n (l ++ m) = feed (feed B n l) (n + l.length) m := by
 intro l
 induction l with
 | nil => intro m B n; rfl
 | cons c l ih =>
   intro m B n
   rw [List.cons_append, feed, ih, feed, List.length_cons]
   congr 1
   omega
theorem words_length (l : List UInt8) : (words l).length = 16 := by rw [words, feed_length]; rfl
theorem blocks_length : ∀ (n : Nat) (s : List Wd) (l : List UInt8), s.length = 8 → (blocks n s l).length = 8 := by
 intro n
 induction n with
 | zero => intro s l h; exact h
 | succ n ih => intro s l h; rw [blocks]; exact ih _ _ (comp_length _ _ h)
theorem outOf_length (s : List Wd) : (outOf s).length = 4 * s.length := by
 induction s with
 | nil => rfl
 | cons x s ih =>
   rw [outOf, List.flatMap_cons, List.length_append]
   rw [outOf] at ih
   rw [ih, List.length_cons]
   simp
   omega
theorem sum_length (l : List UInt8) : (sum l).length = 32 := by
 rw [sum, outOf_length, blocks_length _ _ _ rfl]
theorem pad_length (n : Nat) : (pad n).length = zerosOf n + 9 := by
 simp [pad]
theorem zerosOf_is (n : Nat) : (n + zerosOf n + 9) % 64 = 0 ∧ zerosOf n < 64 := by
 unfold zerosOf
 omega
theorem full_length (l : List UInt8) : (full l).length = l.length + zerosOf l.length + 9 := by
 rw [full, List.length_append, pad_length]
 omega
theorem masked_length (key : List UInt8) (m : UInt8) (h : key.length ≤ 64) : (masked key m).length = 64 := by
 simp [masked]
 omega
theorem outOf_at : ∀ (l : List Wd) (i j : Nat), j < 4 → (outOf l)[4 * i + j]? = l[i]?.map fun x => byteOf x j := by
 intro l
 induction l with
 | nil => intro i j _; simp [outOf]
 | cons x l ih =>
   intro i j hj
   unfold outOf at ih ⊢
   rw [List.flatMap_cons]
   cases i with
   | zero =>
     rw [Nat.mul_zero, Nat.zero_add, List.getElem?_append_left hj]
     match j, hj with
     | 0, _ => rfl
     | 1, _ => rfl
     | 2, _ => rfl
     | 3, _ => rfl
   | succ i =>
     rw [List.getElem?_append_right (by simp; omega)]
     rw [show 4 * (i + 1) + j - [byteOf x 0, byteOf x 1, byteOf x 2, byteOf x 3].length = 4 * i + j by simp; omega, ih i j hj]
     rfl
theorem byteOf_is (x : Wd) (j : Nat) : bv (byteOf x j) = .int .u8 ((x >>> (24 - 8 * j)).toNat % 256 : Nat) := by
 unfold bv byteOf
 rw [UInt8.toNat_ofNat']
 congr 2
 omega
theorem words_app (l m : List UInt8) (h : l.length = 64) : words (l ++ m) = feed zeros16 0 l := by
 rw [words, List.take_append_of_le_length (by omega), List.take_of_length_le (by omega)]
end Sha
end Go.Proofs.YtedmogacklbcmaaGreatDoor
namespace Go.Proofs.YtedmogacklbcmaaGreatDoor
open Go.RowKit
namespace Ev
def flat2 : Value → Bool
 | .tuple cs => cs.toList.all flat
 | v => flat v
theorem VR.flat2_eq {β : Pl} {v v' : Value} (h : VR β v v') (hf : flat2 v = true) : v' = v := by
 cases h with
 | flat _ => rfl
 | ptr _ => simp [flat2, Ev.flat, atom] at hf
 | slice _ _ => simp [flat2, Ev.flat, atom] at hf
 | agg hs h => exact VR.flat_eq (.agg hs h) hf
 | tuple hs h =>
   rename_i cs cs'
   congr 1
   apply Array.ext_getElem?
   intro i
   cases hi : cs[i]? with
   | none =>
     have : ¬ i < cs.size := by intro hlt; rw [Array.getElem?_eq_getElem hlt] at hi; cases hi
     exact Array.getElem?_eq_none (by omega)
   | some v =>
     have hlt : i < cs.size := (Array.getElem?_eq_some_iff.1 hi).1
     have hi' : cs'[i]? = some (cs'[i]'(by omega)) := Array.getElem?_eq_getElem (by omega)
     have hr := h i v _ hi hi'
     simp only [flat2, List.all_eq_true] at hf
     have := hr.flat_eq (hf v (by rw [Array.mem_toList_iff]; exact Array.mem_of_getElem? hi))
     rw [hi', this]
 | func _ _ _ _ _ => simp [flat2, Ev.flat, atom] at hf
 | map _ => simp [flat2, Ev.flat, atom] at hf
/-! ### Blocks of the caller's: some may be changed (kind 0), of others cells are read (kind 3) -/
def ofList : List Blk → Nat → Tr Blk → Tr Blk
 | [], _, t => t
 | x :: r, i, t => ofList r (i + 1) (Tr.set 32 t i x)
theorem ofList_get : ∀ (l : List Blk) (i : Nat) (t : Tr Blk) (k : Nat), i + l.length ≤ 1000000 → (ofList l i t).get k = if i ≤ k then (match l[k - i]? with | some x => some x | none => t.get k) else t.get k := by
 intro l
 induction l with
 | nil => intro i t k _; simp [ofList]
 | cons x r ih =>
   intro i t k h
   simp only [List.length_cons] at h
   unfold ofList
   rw [ih (i + 1) _ k (by omega), Tr.get_set 32 t i x k (by simp; omega)]
   rcases Nat.lt_trichotomy k i with hk | hk | hk
   · simp [show ¬ i + 1 ≤ k by omega, show ¬ i ≤ k by omega, show k ≠ i by omega]
   · subst hk
     rw [if_neg (by omega), if_pos rfl, if_pos (Nat.le_refl _), Nat.sub_self]
     rfl
   · have e : k - i = (k - (i + 1)) + 1 := by omega
     rw [e, List.getElem?_cons_succ]
     simp [show i + 1 ≤ k by omega, show i ≤ k by omega, show k ≠ i by omega]
def Given (w : World) (K : Nat → Prop) (x : Blk × BI) : Prop :=
 x.1.cells.all flat = true ∧
 ((x.1.kind = 0 ∧ K x.2.blk ∧ x.2.off = 0 ∧ x.2.ext = 0 ∧ w.heap[x.2.blk]? = some (.cells x.1.cells.toArray x.1.elem (0, 0))) ∨
  (x.1.kind = 3 ∧ ¬ K x.2.blk ∧ x.2.blk < w.heap.size ∧ ∀ (j : Nat) (v : Value), x.1.cells[j]? = some v → w.cell? ⟨x.2.blk, x.2.off + j, none⟩ = some v))
def pl (l : List (Blk × BI)) : Pl := fun i => (l[i]?).map (·.2)
def aw (l : List Blk) : AW := ⟨ofList l 0 .lf, l.length, .lf, 0, [], []⟩
theorem Emb.given {P : Program} {w : World} {K : Nat → Prop} {l : List (Blk × BI)} (hl : l.length ≤ 1000000) (hg : ∀ x ∈ l, Given w K x)
 (hd : ∀ (i j : Nat) (x y : Blk × BI), l[i]? = some x → l[j]? = some y → x.1.kind = 0 → y.1.kind = 0 → x.2.blk = y.2.blk → i = j) : Emb P ⟨w, K⟩ (pl l) (aw (l.map (·.1))) w := by
 have hget : ∀ i, (aw (l.map (·.1))).heap.get i = (l[i]?).map (·.1) := by
  intro i
  unfold aw
  rw [ofList_get _ _ _ _ (by simpa using hl), if_pos (Nat.zero_le _), Nat.sub_zero, List.getElem?_map]
  cases l[i]? <;> rfl
 have key : ∀ i b, (aw (l.map (·.1))).heap.get i = some b → ∃ x, l[i]? = some x ∧ x.1 = b ∧ pl l i = some x.2 ∧ Given w K x := by
  intro i b h
  rw [hget, Option.map_eq_some_iff] at h
  obtain ⟨x, h1, h2⟩ := h
  exact ⟨x, h1, h2, by simp only [pl, h1, Option.map_some], hg x (List.mem_of_getElem? h1)⟩
 refine .mk' ⟨rfl, rfl, rfl, Nat.le_refl _, fun _ _ => rfl⟩ (fun i hi => ?_) (fun i b h hk => ?_) (fun i j b c bi bj hi hkb hj hkc hbi hbj hblk => ?_) (fun i b h hk => ?_) (fun i b h => ?_) ?_
 · have : l[i]? = none := List.getElem?_eq_none (by simpa [aw] using hi)
   exact ⟨by rw [hget, this]; rfl, by simp only [pl, this, Option.map_none]⟩
 · obtain ⟨x, h1, rfl, h3, hf, h4⟩ := key i b h
   rcases h4 with ⟨k1, k2, k3, k4, k5⟩ | ⟨k1, _⟩
   · refine ⟨x.2, _, _, h3, .inr k2, k3, k5, .inl rfl, by simp [k4], fun _ => ⟨k4, rfl⟩, ?_⟩
     rw [List.take_of_length_le (by simp)]
     exact .of_flat (List.all_eq_true.1 hf)
   · omega
 · obtain ⟨x, h1, rfl, h3, hf, h4⟩ := key i b hi
   obtain ⟨y, g1, rfl, g3, gf, g4⟩ := key j c hj
   rw [hbi] at h3; injection h3 with h3; subst h3
   rw [hbj] at g3; injection g3 with g3; subst g3
   refine hd i j x y h1 g1 ?_ ?_ hblk
   · rcases h4 with ⟨k1, _⟩ | ⟨k1, _⟩ <;> omega
   · rcases g4 with ⟨k1, _⟩ | ⟨k1, _⟩ <;> omega
 · obtain ⟨x, h1, rfl, h3, hf, h4⟩ := key i b h
   rcases h4 with ⟨k1, _⟩ | ⟨_, k2, k3, k4⟩
   · omega
   · refine ⟨x.2, h3, fun e => ?_, fun j v hv => ⟨v, k4 j v hv, .flat (List.all_eq_true.1 hf v (List.mem_of_getElem? hv))⟩⟩
     rcases e with e | e
     · exact absurd e (by simpa using k3)
     · exact k2 e
 · obtain ⟨x, h1, rfl, h3, hf, h4⟩ := key i b h
   rcases h4 with ⟨k1, _⟩ | ⟨k1, _⟩ <;> omega
 · have no : ∀ i b, (aw (l.map (·.1))).heap.get i = some b → b.kind = 2 → False := by
    intro i b h hk
    obtain ⟨x, h1, rfl, h3, hf, h4⟩ := key i b h
    rcases h4 with ⟨k1, _⟩ | ⟨k1, _⟩ <;> omega
   exact ⟨fun i b l h hk _ => (no i b h hk).elim, fun i j b c l m bi bj h hk => (no i b h hk).elim⟩
theorem Emb.row {P : Program} {w0 : Base} {β : Pl} {a : AW} {w : World} (he : Emb P w0 β a w) {i : Nat} {b : Blk} {bi : BI} (hb : a.heap.get i = some b) (hk : b.kind = 0) (hbi : β i = some bi) (hf : b.cells.all flat = true) :
 w.heap[bi.blk]? = some (.cells b.cells.toArray b.elem (0, 0)) := by
 obtain ⟨bj, cur, fz, g1, g2, g3, g4, g5, g6, g7, g8⟩ := he.blk i b hb (by omega)
 rw [hbi] at g1; injection g1 with g1; subst g1
 obtain ⟨e1, e2⟩ := g7 hk
 rw [g4, e2]
 have hc : cur = b.cells.toArray := by
  rw [e1, Nat.zero_mul, Nat.add_zero] at g6
  rw [List.take_of_length_le (by rw [Array.length_toList]; omega)] at g8
  have hl : cur.toList = b.cells := by
   apply List.ext_getElem?
   intro j
   cases hj : b.cells[j]? with
   | none =>
     have : b.cells.length ≤ j := by
      rcases Nat.lt_or_ge j b.cells.length with h | h
      · rw [List.getElem?_eq_getElem h] at hj; cases hj
      · exact h
     exact List.getElem?_eq_none (by rw [Array.length_toList]; omega)
   | some v =>
     obtain ⟨v', h1, h2⟩ := g8.get hj
     rw [h1, h2.flat_eq (List.all_eq_true.1 hf v (List.mem_of_getElem? hj))]
  rw [← hl]
 rw [hc]
def ans (P : Program) (n : Nat) (f : FuncId) (args : Array Value) (l : List Blk) : Option Value := (evBody P (evC P n) f args (aw l)).map Prod.fst
theorem calls_given {P : Program} (hm : P.follows .mixedOrders = true) {n : Nat} {f : FuncId} {args args' : Array Value} {v : Value} {a1 : AW} {w : World} {K : Nat → Prop} {l : List (Blk × BI)} (hl : l.length ≤ 1000000) (hg : ∀ x ∈ l, Given w K x)
 (hd : ∀ (i j : Nat) (x y : Blk × BI), l[i]? = some x → l[j]? = some y → x.1.kind = 0 → y.1.kind = 0 → x.2.blk = y.2.blk → i = j) (hargs : VL (pl l) args.toList args'.toList)
 (h : evBody P (evC P n) f args (aw (l.map (·.1))) = some (v, a1)) :
 Calls P f args' w fun e w1 => ∃ β1 v', e = .returned v' ∧ Le (pl l) β1 ∧ Emb P ⟨w, K⟩ β1 a1 w1 ∧ VR β1 v v' :=
 body_sound (code_sound hm n) (pl l) (aw (l.map (·.1))) w f args args' v a1 (.given hl hg hd) hargs h
theorem calls_ans {P : Program} (hm : P.follows .mixedOrders = true) {n : Nat} {f : FuncId} {args args' : Array Value} {v : Value} {w : World} {l : List (Blk × BI)} (hl : l.length ≤ 1000000) (hg : ∀ x ∈ l, Given w (fun _ => False) x)
 (h3 : ∀ x ∈ l, x.1.kind = 3) (hargs : VL (pl l) args.toList args'.toList) (h : ans P n f args (l.map (·.1)) = some v) (hv : flat2 v = true) :
 Calls P f args' w fun e w1 => e = .returned v ∧ Below w.heap.size w w1 := by
 unfold ans at h
 rw [Option.map_eq_some_iff] at h
 obtain ⟨⟨v0, a1⟩, h, rfl⟩ := h
 refine (calls_given hm hl hg (fun i j x y hx _ hk => by have := h3 x (List.mem_of_getElem? hx); omega) hargs h).mono ?_
 rintro e w1 ⟨β1, v', rfl, _, k2, k3⟩
 rw [k3.flat2_eq hv]
 exact ⟨rfl, k2.below.below fun _ h => h⟩
def ansBlk (P : Program) (n : Nat) (f : FuncId) (args : Array Value) (l : List Blk) : Option Blk :=
 match evBody P (evC P n) f args (aw l) with
 | some (.pointer (some ⟨i, 0, none⟩), a) => a.heap.get i
 | _ => none
theorem calls_blk {P : Program} (hm : P.follows .mixedOrders = true) {n : Nat} {f : FuncId} {args args' : Array Value} {b : Blk} {w : World} {l : List (Blk × BI)} (hl : l.length ≤ 1000000) (hg : ∀ x ∈ l, Given w (fun _ => False) x)
 (h3 : ∀ x ∈ l, x.1.kind = 3) (hargs : VL (pl l) args.toList args'.toList) (h : ansBlk P n f args (l.map (·.1)) = some b) (hk : b.kind = 0) (hf : b.cells.all flat = true) :
 Calls P f args' w fun e w1 => ∃ g, e = .returned (.pointer (some ⟨g, 0, none⟩)) ∧ w.heap.size ≤ g ∧ w1.heap[g]? = some (.cells b.cells.toArray b.elem (0, 0)) ∧ Below w.heap.size w w1 := by
 unfold ansBlk at h
 split at h
 · rename_i i a1 he
   refine (calls_given hm hl hg (fun i j x y hx _ hk => by have := h3 x (List.mem_of_getElem? hx); omega) hargs he).mono ?_
   rintro e w1 ⟨β1, v', rfl, _, k2, k3⟩
   obtain ⟨a', rfl, _, bi, k4, rfl⟩ := k3.pointer
   obtain ⟨bj, cur, fz, g1, g2, g3, _⟩ := k2.blk i b h (by omega)
   rw [k4] at g1; injection g1 with g1; subst g1
   refine ⟨bi.blk, by rw [g3]; rfl, ?_, k2.row h hk k4 hf, k2.below.below fun _ h => h⟩
   rcases g2 with g2 | g2
   · exact g2
   · exact absurd g2 fun h => h
 · cases h
/-! ### A region that draws its order, in the midst of a walk -/
def lie (β : Pl) : Value → Value
 | .pointer (some a) => match β a.block with
   | some bi => .pointer (some ⟨bi.blk, bi.off + a.off, none⟩)
   | none => .pointer none
 | .slice (some a) n c => match β a.block with
   | some bi => .slice (some ⟨bi.blk, bi.off + a.off, none⟩) n (c + bi.ext)
   | none => .slice none 0 0
 | v => v
def slot (s : St) (k : Nat) : Value := (s.tmps.get k).getD undef
def frame (β : Pl) (tl : List Value) : Array Value := (tl.map (Ev.lie β)).toArray
end Ev
def oadd (k : IntKind) (x y : Int) : Int := k.wrap (x + y)
def osub (k : IntKind) (x y : Int) : Int := k.wrap (x - y)
def omul (k : IntKind) (x y : Int) : Int := k.wrap (x * y)
def oand (k : IntKind) (x y : Int) : Int := k.wrap ((BitVec.ofInt k.bits x &&& BitVec.ofInt k.bits y).toNat)
def oor (k : IntKind) (x y : Int) : Int := k.wrap ((BitVec.ofInt k.bits x ||| BitVec.ofInt k.bits y).toNat)
def oxor (k : IntKind) (x y : Int) : Int := k.wrap ((BitVec.ofInt k.bits x ^^^ BitVec.ofInt k.bits y).toNat)
def oandn (k : IntKind) (x y : Int) : Int := k.wrap ((BitVec.ofInt k.bits x &&& ~~~ BitVec.ofInt k.bits y).toNat)
def oshl (k : IntKind) (x : Int) (n : Nat) : Int := k.wrap (x * 2 ^ n)
def oshr (x : Int) (n : Nat) : Int := x.fdiv (2 ^ n)
theorem wrap_u64 (n : Nat) (h : n < 18446744073709551616) : IntKind.u64.wrap (n : Int) = (n : Int) := by
 simp only [IntKind.wrap, IntKind.bits, IntKind.signed]
 simp
 omega
theorem wrap_u8 (n : Nat) (h : n < 256) : IntKind.u8.wrap (n : Int) = (n : Int) := by
 simp only [IntKind.wrap, IntKind.bits, IntKind.signed]
 simp
 omega
theorem oadd_u64 (a b : Nat) (h : a + b < 18446744073709551616) : oadd .u64 (a : Int) (b : Int) = ((a + b : Nat) : Int) := by
 unfold oadd
 rw [← Int.natCast_add, wrap_u64 _ h]
theorem omul_u64 (a b : Nat) (h : a * b < 18446744073709551616) : omul .u64 (a : Int) (b : Int) = ((a * b : Nat) : Int) := by
 unfold omul
 rw [← Int.natCast_mul, wrap_u64 _ h]
theorem osub_u64 (a b : Nat) (ha : a < 18446744073709551616) (hb : b < 18446744073709551616) : osub .u64 (a : Int) (b : Int) = (((a + 18446744073709551616 - b) % 18446744073709551616 : Nat) : Int) := by
 simp only [osub, IntKind.wrap, IntKind.bits, IntKind.signed]
 simp
 omega
theorem oand_u64 (a b : Nat) (ha : a < 18446744073709551616) (hb : b < 18446744073709551616) : oand .u64 (a : Int) (b : Int) = ((a &&& b : Nat) : Int) := by
 show IntKind.u64.wrap ((BitVec.ofInt 64 (a : Int) &&& BitVec.ofInt 64 (b : Int)).toNat : Int) = _
 simp only [BitVec.ofInt_natCast, BitVec.toNat_and, BitVec.toNat_ofNat]
 rw [Nat.mod_eq_of_lt ha, Nat.mod_eq_of_lt hb]
 exact wrap_u64 _ (Nat.lt_of_le_of_lt Nat.and_le_left ha)
theorem oor_u64 (a b : Nat) (ha : a < 18446744073709551616) (hb : b < 18446744073709551616) : oor .u64 (a : Int) (b : Int) = ((a ||| b : Nat) : Int) := by
 show IntKind.u64.wrap ((BitVec.ofInt 64 (a : Int) ||| BitVec.ofInt 64 (b : Int)).toNat : Int) = _
 simp only [BitVec.ofInt_natCast, BitVec.toNat_or, BitVec.toNat_ofNat]
 rw [Nat.mod_eq_of_lt ha, Nat.mod_eq_of_lt hb]
 exact wrap_u64 _ (Nat.or_lt_two_pow (n := 64) ha hb)
theorem oandn_u64 (a b : Nat) (ha : a < 18446744073709551616) (hb : b < 18446744073709551616) : oandn .u64 (a : Int) (b : Int) = ((a &&& (18446744073709551615 - b) : Nat) : Int) := by
 show IntKind.u64.wrap ((BitVec.ofInt 64 (a : Int) &&& ~~~ BitVec.ofInt 64 (b : Int)).toNat : Int) = _
 simp only [BitVec.ofInt_natCast, BitVec.toNat_and, BitVec.toNat_ofNat, BitVec.toNat_not]
 rw [Nat.mod_eq_of_lt ha, Nat.mod_eq_of_lt hb]
 exact wrap_u64 _ (Nat.lt_of_le_of_lt Nat.and_le_left ha)
theorem oshl_u64 (a n : Nat) : oshl .u64 (a : Int) n = ((a * 2 ^ n % 18446744073709551616 : Nat) : Int) := by
 unfold oshl
 rw [show ((a : Int) * 2 ^ n) = ((a * 2 ^ n : Nat) : Int) by rw [Int.natCast_mul, Int.natCast_pow]; rfl]
 simp only [IntKind.wrap, IntKind.bits, IntKind.signed]
 simp
theorem oshr_nat (a n : Nat) : oshr (a : Int) n = ((a / 2 ^ n : Nat) : Int) := by
 unfold oshr
 rw [Int.fdiv_eq_ediv_of_nonneg _ (by exact Int.le_of_lt (Int.pow_pos (by decide)))]
 rw [Int.natCast_ediv, Int.natCast_pow]
 rfl
theorem and_low (a : Nat) : a &&& 67108863 = a % 67108864 := Nat.and_two_pow_sub_one_eq_mod a 26
end Go.Proofs.YtedmogacklbcmaaGreatDoor
namespace Go.Proofs.YtedmogacklbcmaaGreatDoor
namespace Cha
def rotl (x : BitVec 32) (n m : Nat) : BitVec 32 := x <<< n ||| x >>> m
structure Q where
 a : BitVec 32
 b : BitVec 32
 c : BitVec 32
 d : BitVec 32
def half (q : Q) (n1 m1 n2 m2 : Nat) : Q :=
 let a := q.a + q.b
 let d := rotl (q.d ^^^ a) n1 m1
 let c := q.c + d
 let b := rotl (q.b ^^^ c) n2 m2
 ⟨a, b, c, d⟩
def quarter (q : Q) : Q := half (half q 16 16 12 20) 8 24 7 25
def at_ (s : List (BitVec 32)) (i : Nat) : BitVec 32 := s.getD i 0#32
def qr (s : List (BitVec 32)) (i : Nat × Nat × Nat × Nat) : List (BitVec 32) :=
 let q := quarter ⟨at_ s i.1, at_ s i.2.1, at_ s i.2.2.1, at_ s i.2.2.2⟩
 (((s.set i.1 q.a).set i.2.1 q.b).set i.2.2.1 q.c).set i.2.2.2 q.d
def table : List (Nat × Nat × Nat × Nat) := [(0, 4, 8, 12), (1, 5, 9, 13), (2, 6, 10, 14), (3, 7, 11, 15), (0, 5, 10, 15), (1, 6, 11, 12), (2, 7, 8, 13), (3, 4, 9, 14)]
def round (s : List (BitVec 32)) : List (BitVec 32) := table.foldl qr s
theorem qr_length (s : List (BitVec 32)) (i) : (qr s i).length = s.length := by simp [qr]
theorem fold_length (l : List (Nat × Nat × Nat × Nat)) : ∀ s : List (BitVec 32), (l.foldl qr s).length = s.length := by
 induction l with
 | nil => intro s; rfl
 | cons i l ih => intro s; rw [List.foldl_cons, ih, qr_length]
theorem round_length (s : List (BitVec 32)) : (round s).length = s.length := fold_length _ _
def rounds : Nat → List (BitVec 32) → List (BitVec 32)
 | 0, s => s
 | n + 1, s => round (rounds n s)
theorem rounds_length (n : Nat) (s : List (BitVec 32)) : (rounds n s).length = s.length := by
 induction n with
 | zero => rfl
 | succ n ih => rw [rounds, round_length, ih]
def le4 (a b c d : UInt8) : BitVec 32 := wb a ||| wb b <<< 8 ||| wb c <<< 16 ||| wb d <<< 24
def word (l : List UInt8) (i : Nat) : BitVec 32 := le4 (l.getD i 0) (l.getD (i + 1) 0) (l.getD (i + 2) 0) (l.getD (i + 3) 0)
def state0 (counter : BitVec 32) : List (BitVec 32) :=
 [0x61707865#32, 0x3320646e#32, 0x79622d32#32, 0x6b206574#32, 0#32, 0#32, 0#32, 0#32, 0#32, 0#32, 0#32, 0#32, counter, 0#32, 0#32, 0#32]
def stKey (key : List UInt8) (s : List (BitVec 32)) : Nat → List (BitVec 32)
 | 0 => s
 | i + 1 => (stKey key s i).set (4 + i) (word key (4 * i))
def stNonce (nonce : List UInt8) (s : List (BitVec 32)) : Nat → List (BitVec 32)
 | 0 => s
 | i + 1 => (stNonce nonce s i).set (13 + i) (word nonce (4 * i))
theorem stKey_length (key : List UInt8) (s : List (BitVec 32)) (i : Nat) : (stKey key s i).length = s.length := by
 induction i with
 | zero => rfl
 | succ i ih => rw [stKey, List.length_set, ih]
theorem stNonce_length (key : List UInt8) (s : List (BitVec 32)) (i : Nat) : (stNonce key s i).length = s.length := by
 induction i with
 | zero => rfl
 | succ i ih => rw [stNonce, List.length_set, ih]
def state (key : List UInt8) (counter : BitVec 32) (nonce : List UInt8) : List (BitVec 32) := stNonce nonce (stKey key (state0 counter) 8) 3
theorem state_length (key : List UInt8) (counter : BitVec 32) (nonce : List UInt8) : (state key counter nonce).length = 16 := by
 rw [state, stNonce_length, stKey_length]
 rfl
def byteOf (x : BitVec 32) (j : Nat) : UInt8 := UInt8.ofNat ((x >>> (8 * j)).toNat % 256)
def bytesOf (x : BitVec 32) : List UInt8 := [byteOf x 0, byteOf x 1, byteOf x 2, byteOf x 3]
def sums (s t : List (BitVec 32)) : List (BitVec 32) := List.zipWith (· + ·) s t
def block (key : List UInt8) (counter : BitVec 32) (nonce : List UInt8) : List UInt8 :=
 (sums (rounds 10 (state key counter nonce)) (state key counter nonce)).flatMap bytesOf
theorem flat_at : ∀ (l : List (BitVec 32)) (i j : Nat), j < 4 → (l.flatMap bytesOf)[4 * i + j]? = l[i]?.map fun x => byteOf x j := by
 intro l
 induction l with
 | nil => intro i j _; simp
 | cons x l ih =>
   intro i j hj
   rw [List.flatMap_cons]
   cases i with
   | zero =>
     have h4 : j < (bytesOf x).length := hj
     rw [Nat.mul_zero, Nat.zero_add, List.getElem?_append_left h4]
     match j, hj with
     | 0, _ => rfl
     | 1, _ => rfl
     | 2, _ => rfl
     | 3, _ => rfl
   | succ i =>
     have h4 : (bytesOf x).length = 4 := rfl
     rw [List.getElem?_append_right (by omega), h4, show 4 * (i + 1) + j - 4 = 4 * i + j by omega, ih i j hj]
     rfl
theorem sums_at (r s : List (BitVec 32)) (i : Nat) (hr : i < r.length) (hs : i < s.length) : (sums r s)[i]? = some (at_ r i + at_ s i) := by
 unfold sums at_
 rw [List.getElem?_zipWith, List.getElem?_eq_getElem hr, List.getElem?_eq_getElem hs, List.getD_eq_getElem?_getD, List.getD_eq_getElem?_getD, List.getElem?_eq_getElem hr, List.getElem?_eq_getElem hs]
 rfl
def fill (b : List UInt8) (n : Nat) : List UInt8 := b.take n ++ List.replicate (64 - n) 0
theorem fill_length (b : List UInt8) (n : Nat) (hb : b.length = 64) (hn : n ≤ 64) : (fill b n).length = 64 := by
 rw [fill, List.length_append, List.length_take, List.length_replicate]
 omega
theorem fill_set (b : List UInt8) (n : Nat) (u : UInt8) (hb : b.length = 64) (hn : n < 64) (hu : b[n]? = some u) : (fill b n).set n u = fill b (n + 1) := by
 apply List.ext_getElem?
 intro k
 rw [List.getElem?_set]
 unfold fill
 simp only [List.getElem?_append, List.length_append, List.length_take, List.length_replicate, List.getElem?_take, List.getElem?_replicate, hb]
 by_cases h1 : n = k
 · subst h1
   simp [show min n 64 = n by omega, show min (n + 1) 64 = n + 1 by omega, hu, show n < n + (64 - n) by omega]
 · by_cases h2 : k < n
   · simp [h1, show min n 64 = n by omega, show min (n + 1) 64 = n + 1 by omega, h2, show k < n + 1 by omega]
   · simp [h1, show min n 64 = n by omega, show min (n + 1) 64 = n + 1 by omega, h2, show ¬ k < n + 1 by omega]
     by_cases h3 : k - n < 64 - n
     · simp [h3]
       omega
     · simp [h3]
       omega
theorem fill_all (b : List UInt8) (hb : b.length = 64) : fill b 64 = b := by
 rw [fill, List.take_of_length_le (by omega), show 64 - 64 = 0 from rfl, List.replicate_zero, List.append_nil]
theorem flat_length (l : List (BitVec 32)) : (l.flatMap bytesOf).length = 4 * l.length := by
 induction l with
 | nil => rfl
 | cons x l ih =>
   rw [List.flatMap_cons, List.length_append, ih, show (bytesOf x).length = 4 from rfl, List.length_cons]
   omega
theorem block_length (key : List UInt8) (counter : BitVec 32) (nonce : List UInt8) : (block key counter nonce).length = 64 := by
 rw [block, flat_length, sums, List.length_zipWith, rounds_length, state_length]
 rfl
theorem byteOf_is (x : BitVec 32) (j : Nat) : bv (byteOf x j) = .int .u8 ((x >>> (8 * j)).toNat % 256 : Nat) := by
 unfold bv byteOf
 rw [UInt8.toNat_ofNat']
 congr 2
 omega
end Cha
end Go.Proofs.YtedmogacklbcmaaGreatDoor
namespace Go.Proofs.YtedmogacklbcmaaGreatDoor
open Go.RowKit
namespace Cha
def stream (key : List UInt8) (c : BitVec 32) (nonce : List UInt8) (i : Nat) : UInt8 := (block key (c + BitVec.ofNat 32 (i / 64)) nonce).getD (i % 64) 0
def xor (key : List UInt8) (c : BitVec 32) (nonce l : List UInt8) : List UInt8 := l.mapIdx fun i u => u ^^^ stream key c nonce i
theorem xor_length (key : List UInt8) (c : BitVec 32) (nonce l : List UInt8) : (xor key c nonce l).length = l.length := by simp [xor]
theorem xor_at (key : List UInt8) (c : BitVec 32) (nonce l : List UInt8) (i : Nat) (u : UInt8) (h : l[i]? = some u) : (xor key c nonce l)[i]? = some (u ^^^ stream key c nonce i) := by
 rw [xor, List.getElem?_mapIdx, h]
 rfl
theorem stream_at (key : List UInt8) (c : BitVec 32) (nonce : List UInt8) (k i : Nat) (hi : i < 64) : stream key c nonce (64 * k + i) = (block key (c + BitVec.ofNat 32 k) nonce).getD i 0 := by
 rw [stream, show (64 * k + i) / 64 = k by omega, show (64 * k + i) % 64 = i by omega]
def long (c : BitVec 32) (n : Nat) : Prop := 4294967296 - c.toNat < (n + 63) / 64
def out (key : List UInt8) (c : BitVec 32) (nonce l : List UInt8) : List UInt8 := if 4294967296 - c.toNat < (l.length + 63) / 64 then [] else xor key c nonce l
def ks (key : List UInt8) (c : BitVec 32) (nonce : List UInt8) : Nat → List UInt8
 | 0 => []
 | k + 1 => ks key c nonce k ++ block key (c + BitVec.ofNat 32 k) nonce
def fillN (b : List UInt8) (n : Nat) : List UInt8 := b.take n ++ List.replicate (b.length - n) 0
theorem fillN_length (b : List UInt8) (n : Nat) : (fillN b n).length = b.length := by
 rw [fillN, List.length_append, List.length_take, List.length_replicate]
 omega
theorem fillN_zero (b : List UInt8) : fillN b 0 = List.replicate b.length 0 := by simp [fillN]
theorem fillN_all (b : List UInt8) (n : Nat) (h : b.length ≤ n) : fillN b n = b := by
 rw [fillN, List.take_of_length_le h, show b.length - n = 0 by omega, List.replicate_zero, List.append_nil]
theorem fillN_set (b : List UInt8) (n : Nat) (u : UInt8) (hu : b[n]? = some u) : (fillN b n).set n u = fillN b (n + 1) := by
 have hn : n < b.length := (List.getElem?_eq_some_iff.1 hu).1
 apply List.ext_getElem?
 intro k
 rw [List.getElem?_set]
 unfold fillN
 simp only [List.getElem?_append, List.length_append, List.length_take, List.length_replicate, List.getElem?_take, List.getElem?_replicate]
 by_cases h1 : n = k
 · subst h1
   simp [show min n b.length = n by omega, show min (n + 1) b.length = n + 1 by omega, hu, show n < n + (b.length - n) by omega]
 · by_cases h2 : k < n
   · simp [h1, show min n b.length = n by omega, show min (n + 1) b.length = n + 1 by omega, h2, show k < n + 1 by omega]
   · simp only [h1, show min n b.length = n by omega, show min (n + 1) b.length = n + 1 by omega, h2, show ¬ k < n + 1 by omega, if_false]
     by_cases h3 : k < b.length
     · rw [if_pos (by omega), if_pos (by omega)]
     · rw [if_neg (by omega), if_neg (by omega)]
end Cha
theorem w8_xor (x y : UInt8) : bits .xor .u8 (x.toNat : Int) (y.toNat : Int) = ((x ^^^ y).toNat : Int) := by
 show IntKind.u8.wrap ((BitVec.ofInt 8 (x.toNat : Int) ^^^ BitVec.ofInt 8 (y.toNat : Int)).toNat : Int) = _
 have h1 := (x ^^^ y).toNat_lt
 simp only [BitVec.ofInt_natCast, BitVec.toNat_xor, BitVec.toNat_ofNat, UInt8.toNat_xor] at h1 ⊢
 rw [Nat.mod_eq_of_lt x.toNat_lt, Nat.mod_eq_of_lt y.toNat_lt]
 simp only [IntKind.wrap, IntKind.bits, IntKind.signed]
 simp
 omega
theorem w_add1 (x : BitVec 32) : ((x.toNat : Int) + 1) % (4294967296 : Int) = ((x + 1#32).toNat : Int) := w_add x 1#32
end Go.Proofs.YtedmogacklbcmaaGreatDoor
