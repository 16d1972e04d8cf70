/- The reference's Parts returns the encoding of a list of strings, and whether it is one of at most 600 bytes and 60 strings. It writes nothing that was there. -/
import Derived.Test.YtdibccebaaagoaaKit
import Derived.Test.YtdibccebaaagoaaBase
namespace Go.Proofs.Ytdibccebaaagoaa
open Go.RowKit

theorem hdr_conv (w : World) (m : Nat) :
    (convert 71 9 (.slice (some ⟨w.heap.size, 0, none⟩) 2 2)).run Try.prog (w.alloc (.cells #[.int .u8 ((m : Int) / 256), .int .u8 ((m : Int) % 256)] 5)) =
      .ok (.string (S [UInt8.ofNat (m / 256), UInt8.ofNat m])) (w.alloc (.cells #[.int .u8 ((m : Int) / 256), .int .u8 ((m : Int) % 256)] 5)) := by
  rw [run_convert_bytes_arg (P := Try.prog) _ 71 5 Try.underlying71 Try.underlying5 w.heap.size 0 2 2 [((m / 256 : Nat) : Int), ((m % 256 : Nat) : Int)] rfl (fun i hi => by
    have hi' : i = 0 ∨ i = 1 := by omega
    rcases hi' with rfl | rfl <;> simp) 9 Try.underlying9]
  congr 2
  have h1 : ((m : Int) / 256).toNat = m / 256 := by omega
  have h2 : ((m : Int) % 256).toNat = m % 256 := by omega
  have h3 : UInt8.ofNat (m % 256) = UInt8.ofNat m := by apply UInt8.toNat_inj.1; simp
  simp [strOfNums, S, h1, h2, h3]

end Go.Proofs.Ytdibccebaaagoaa
