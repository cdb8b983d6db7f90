/- Texts that the proofs share: KitLists. -/
import Derived.Test.YtbdpnpabpcidkaaDoorU19
import Derived.Test.YtbdpnpabpcidkaaDoorU20
namespace Go.Proofs.YtbdpnpabpcidkaaDoor
open Go.RowKit
def light (ls : List (List UInt8)) (n most : Nat) : Bool := decide (ls.length ≤ n ∧ ∀ l ∈ ls, l.length ≤ most)
set_option maxHeartbeats 400000 in
theorem LightLists_any (v : Value) (ls : List (List UInt8)) (n most : Nat) (w : World) {B : Nat} (hb : Bss w B v ls) (hn : n ≤ 1000000) (_hm : most ≤ 1000000000) :
 Calls Tryd.prog 11 #[v, .int .i64 n, .int .i64 most] w fun e w' => e = .returned (.bool (light ls n most)) ∧ w = w' := by
 have Hb := Lib.hid hb
 obtain ⟨A, c, rfl, hc, hcs⟩ := hb
 have Hcs := Lib.hid hcs
 clear hcs
 go_enter Tryd.func11, Tryd.ntmps11
 go_wp2
 go_loopw [7] (fun iv wr => ∃ i : Nat, i ≤ ls.length ∧ i ≤ n + 1 ∧ iv = .int .i64 (i : Int) ∧ wr = w ∧ ∀ j l, j < i → ls[j]? = some l → l.length ≤ most) (fun iv _ => ls.length - (intOf iv).toNat)
 case atStart => exact ⟨0, Nat.zero_le _, Nat.zero_le _, rfl, rfl, fun j l hj => absurd hj (by omega)⟩
 case round =>
  obtain ⟨i, hi, hin, rfl, rfl, hall⟩ := hrel
  have Hall := Lib.hid hall
  clear hall
  by_cases h1 : i < ls.length
  · have h1' : (i : Int) < (ls.length : Int) := by omega
    by_cases h2 : i ≤ n
    · have h2' : (i : Int) ≤ (n : Int) := by omega
      obtain ⟨b, off, rfl, hlt, hcell⟩ := Hcs.out (by intro h; subst h; simp at h1)
      obtain ⟨u, hu, hbs⟩ := hcell i _ (List.getElem?_eq_getElem h1)
      obtain ⟨A2, c2, rfl, _, _⟩ := hbs
      clear hcell
      by_cases h3 : most < (ls[i]).length
      · have h3' : (most : Int) < ((ls[i]).length : Int) := by omega
        go_wp2
        go_ret
        refine ⟨?_, rfl⟩
        have hd : light ls n most = false := decide_eq_false (fun h => absurd (h.2 _ (List.getElem_mem h1)) (by omega))
        rw [hd]
        rfl
      · have h3' : ¬ (most : Int) < ((ls[i]).length : Int) := by omega
        go_wp2
        go_roundw
        case rel =>
         refine ⟨i + 1, by omega, by omega, by simp, trivial, fun j l hj hl => ?_⟩
         by_cases hji : j < i
         · exact Hall.out j l hji hl
         · have : j = i := by omega
           subst this
           rw [List.getElem?_eq_getElem h1] at hl
           injection hl with hl
           rw [← hl]
           omega
        case measure =>
         simp [intOf]
         omega
    · have h2' : ¬ (i : Int) ≤ (n : Int) := by omega
      have h4 : ¬ (ls.length : Int) ≤ (n : Int) := by omega
      go_wp2
      go_ret
      refine ⟨?_, rfl⟩
      have hd : light ls n most = false := decide_eq_false (fun h => by omega)
      rw [hd]
      rfl
  · have h1' : ¬ (i : Int) < (ls.length : Int) := by omega
    go_wp2
    go_ret
    refine ⟨?_, rfl⟩
    have hd : light ls n most = decide (ls.length ≤ n) := by
     unfold light
     rw [decide_eq_decide]
     refine ⟨fun h => h.1, fun h => ⟨h, fun l hl => ?_⟩⟩
     obtain ⟨j, hj⟩ := List.getElem?_of_mem hl
     exact Hall.out j l (by have := (List.getElem?_eq_some_iff.1 hj).1; omega) hj
    rw [hd]
    rfl
end Go.Proofs.YtbdpnpabpcidkaaDoor
