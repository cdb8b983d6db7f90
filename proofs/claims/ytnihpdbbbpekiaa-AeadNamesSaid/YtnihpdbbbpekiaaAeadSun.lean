/- The chapter's example of sealing, as bytes. -/
import Derived.Test.YtnihpdbbbpekiaaAeadPure
namespace Go.Proofs.Ytnihpdbbbpekiaa
namespace Aead
def sun : List UInt8 := [76, 97, 100, 105, 101, 115, 32, 97, 110, 100, 32, 71, 101, 110, 116, 108, 101, 109, 101, 110, 32, 111, 102, 32, 116, 104, 101, 32, 99, 108, 97, 115, 115, 32, 111, 102, 32, 39, 57, 57, 58, 32, 73, 102, 32, 73, 32, 99, 111, 117, 108, 100, 32, 111, 102, 102, 101, 114, 32, 121, 111, 117, 32, 111, 110, 108, 121, 32, 111, 110, 101, 32, 116, 105, 112, 32, 102, 111, 114, 32, 116, 104, 101, 32, 102, 117, 116, 117, 114, 101, 44, 32, 115, 117, 110, 115, 99, 114, 101, 101, 110, 32, 119, 111, 117, 108, 100, 32, 98, 101, 32, 105, 116, 46]
def sunKey : List UInt8 := (List.range 32).map fun i => UInt8.ofNat (128 + i)
def sunNonce : List UInt8 := [7, 0, 0, 0, 64, 65, 66, 67, 68, 69, 70, 71]
def sunAlong : List UInt8 := [80, 81, 82, 83, 192, 193, 194, 195, 196, 197, 198, 199]
def sunTag : List UInt8 := [26, 225, 11, 89, 79, 9, 226, 106, 126, 144, 46, 203, 208, 96, 6, 145]
set_option maxRecDepth 100000 in
theorem sun_tag : (sealed sunKey sunNonce sun sunAlong).drop 114 = sunTag := by decide +kernel
end Aead
end Go.Proofs.Ytnihpdbbbpekiaa
