/- A packet is determined by its bytes, and no other bytes give it; what was sealed is opened: 'drawbridgelaw09.PacketBack'. -/
import Derived.Test.YtbdpnpabpcidkaaDoorZ51
namespace Go.Proofs.YtbdpnpabpcidkaaDoor.packetBack
open Go.ChangeShapes Go.WideShapes Go.ChangeAt Go.RowKit
open Pkt
open Shk (bsM wp_ld wp_conv grew_below sstop SStop)
set_option maxRecDepth 100000 in
theorem lift (os : Os) (started : os.Started) (H : Type) (enc : TypeId × Value → H) :
 ReturnsInHanded {} Tryd.checked os 5 .any (fun w args => (Rows.packetBackSpec.pre enc Tryd.prog Tryd.f5 Rows.packetBackRow.domain false w args ∧ laidMetH Tryd.prog Hk.laidL w) ∧ sizedMet enc Tryd.prog Tryd.f5 (OpenSpec.ofChange Rows.packetBackSpec) false w args) (Rows.packetBackSpec.post enc Tryd.prog Tryd.f5 false true false false) := by
 refine Hk.lifted 4 Pol.own started (by kernel_rfl) Tryd.func5 Pol.laid (by kernel_rfl) rfl Tryd.underlying4 rfl
  (fun ds hd => by
   have hd' : ds.length = 5 := hd
   match ds, hd' with
   | [d0, d1, d2, d3, d4], _ => rfl)
  (ChangeSpec.witness_at (enc := enc) (C := Tryd.checked) (os := os) (X := fun w _ => laidMetH Tryd.prog Hk.laidL w) false (Hk.laidWorld os) #[(Pkt.nm 0).val, .slice none 0 0, .agg (Array.replicate 32 (.int .u8 0)), .int .i64 0, .slice none 0 0] 8 rfl (by kernel_rfl) (by kernel_rfl) (by kernel_rfl) (by kernel_rfl) (by kernel_rfl) (Hk.laid_metH os _)) ?_
 intro W args ds ps hst htab
 have hA : DataW.TrodAll enc Tryd.prog W 0 (fun _ => true) true Tryd.f5.params.toList args.toList ds ps := hst.trod
 have hok := hst.okw
 have hlt := hst.lt
 rw [Tryd.params5] at hA hok
 obtain ⟨v0, r0, d0, e0, p0, q0, hargs, rfl, rfl, h0, hA⟩ := trodAll_cons hA
 obtain ⟨v1, r1, d1, e1, p1, q1, rfl, rfl, rfl, h1, hA⟩ := trodAll_cons hA
 obtain ⟨v2, r2, d2, e2, p2, q2, rfl, rfl, rfl, h2, hA⟩ := trodAll_cons hA
 obtain ⟨v3, r3, d3, e3, p3, q3, rfl, rfl, rfl, h3, hA⟩ := trodAll_cons hA
 obtain ⟨v4, r4, d4, e4, p4, q4, rfl, rfl, rfl, h4, hA⟩ := trodAll_cons hA
 obtain ⟨rfl, rfl, rfl⟩ := trodAll_nil hA
 obtain rfl : args = #[v0, v1, v2, v3, v4] := by cases args; simp_all
 obtain ⟨_, hv0⟩ := hok 0 40 v0 rfl rfl
 obtain ⟨_, hv1⟩ := hok 1 23 v1 rfl rfl
 obtain ⟨_, hv2⟩ := hok 2 24 v2 rfl rfl
 obtain ⟨_, hv3⟩ := hok 3 3 v3 rfl rfl
 obtain ⟨_, hv4⟩ := hok 4 23 v4 rfl rfl
 obtain ⟨p, m, A, c, rfl, hp, hb, hm, _, _, _⟩ := packet_at hv0 h0 (fun x hx => hlt x (by simp [hx]))
 obtain ⟨b, hbb, _⟩ := Law.bytes_at Tryd.underlying23 hv1 h1 (fun x hx => hlt x (by simp [hx]))
 obtain ⟨Ab, cb, rfl, _⟩ := id hbb
 obtain ⟨sec, rfl, hs⟩ := arr8_at Tryd.underlying24 (by kernel_rfl) (by kernel_rfl) Tryd.underlying5 hv2
 obtain ⟨z, rfl, z0, z1⟩ := Law.int_at Tryd.underlying3 hv3 h3
 obtain ⟨pl, hpl, _⟩ := Law.bytes_at Tryd.underlying23 hv4 h4 (fun x hx => hlt x (by simp [hx]))
 obtain ⟨Ap, cp, rfl, _⟩ := id hpl
 by_cases l1 : 300 < m.length
 · exact long1 p m b sec pl z A Ab Ap c cb cp W htab hs hp hb l1
 by_cases l2 : 300 < b.length
 · exact long2 p m b sec pl z A Ab Ap c cb cp W htab hs hp hb l1 l2
 by_cases l3 : 300 < pl.length
 · exact long3 p m b sec pl z A Ab Ap c cb cp W htab hs hp hb l1 l2 l3
 by_cases ck : chk p m.length = 0
 · by_cases k : p.kind = 3
   · exact walk_data p m b sec pl z A Ab Ap c cb cp W htab hs ⟨z0, z1⟩ hp hb hm hbb hpl l1 l2 l3 ck k
   by_cases o : dataOk p.ses p.epo p.cnt
   · exact walk_ok p m b sec pl z A Ab Ap c cb cp W htab hs ⟨z0, z1⟩ hp hb hm hbb hpl l1 l2 l3 ck k o
   · exact walk_no p m b sec pl z A Ab Ap c cb cp W htab hs ⟨z0, z1⟩ hp hb hm hbb hpl l1 l2 l3 ck k o
 · exact walk_x p m b sec pl z A Ab Ap c cb cp W htab hs ⟨z0, z1⟩ hp hb hm hbb hpl l1 l2 l3 ck
theorem over : Rows.packetBackRow.holds Tryd.pinned (OpenSpec.ofChange Rows.packetBackSpec) :=
 OpenClaim.holds_of_wide 5 Tryd.f5 rfl rfl rfl rfl rfl rfl rfl ⟨rfl, rfl, rfl, rfl, rfl⟩ rfl rfl rfl rfl rfl (by kernel_rfl) Tryd.func5 (by kernel_rfl)
  (of_decide_eq_true (by kernel_rfl)) (by unfold Func.isWrapper; first | (rw [if_pos (by decide +kernel)]; kernel_rfl) | (rw [if_neg (by decide +kernel)]; exact ⟨rfl, rfl⟩))
  (fun os started H enc _ => lift os started H enc)
theorem proved : Rows.PacketBackCardSaid :=
 Claim7.holds_tied_plain_at .later [] [.data] true Rows.packetBackCard.stood.harness false over (fun _ h => by cases h) (by kernel_rfl) (fun _ h => by cases h) packetBack_row_tie rfl ⟨rfl, rfl⟩ (by kernel_rfl) rfl
  (fun f fn hf hfn => by
   obtain rfl : f = 5 := (Option.some.inj ((show Tryd.prog.funcNamed Rows.packetBackRow.func = some 5 by kernel_rfl).symm.trans hf)).symm
   obtain rfl : fn = Tryd.f5 := (Option.some.inj (Tryd.func5.symm.trans hfn)).symm
   refine ⟨by kernel_rfl, fun j t ht => ?_⟩
   have hall : (Tryd.f5.params.toList.all fun t => Tryd.prog.wantsStandIn t == false) = true := by kernel_rfl
   have h := List.all_eq_true.1 hall t (Array.mem_toList_iff.2 (Array.mem_of_getElem? ht))
   exact eq_of_beq h)
  (by kernel_rfl)
#print axioms proved
end Go.Proofs.YtbdpnpabpcidkaaDoor.packetBack
