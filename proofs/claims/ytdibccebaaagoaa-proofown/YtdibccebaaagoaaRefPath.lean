/- The reference: GoodName, Path, GoodPrefix and Ahead return what the plain functions say; they write nothing. -/
import Derived.Test.YtdibccebaaagoaaRefMark
import Derived.Test.YtdibccebaaagoaaBase
import Derived.Handy
import Derived.Sort.Walk0
namespace Go.Proofs.Ytdibccebaaagoaa
open Go.RowKit



theorem low_step0 (k n : Nat) (h : n / 2 ^ k % 2 = 0) : (⟨#[48, 49]⟩ : ByteArray).extract 0 1 ++ S (Bin.low k n) = S (Bin.low (k + 1) n) := by
  rw [show (⟨#[48, 49]⟩ : ByteArray) = S [48, 49] from rfl, S_extract, show (List.drop 0 [(48 : UInt8), 49]).take (1 - 0) = [48] from rfl, S_append, Bin.low_front, Bin.digit, h]
  rfl
theorem low_step1 (k n : Nat) (h : n / 2 ^ k % 2 = 1) : (⟨#[48, 49]⟩ : ByteArray).extract 1 2 ++ S (Bin.low k n) = S (Bin.low (k + 1) n) := by
  rw [show (⟨#[48, 49]⟩ : ByteArray) = S [48, 49] from rfl, S_extract, show (List.drop 1 [(48 : UInt8), 49]).take (2 - 1) = [49] from rfl, S_append, Bin.low_front, Bin.digit, h]
  rfl

end Go.Proofs.Ytdibccebaaagoaa
