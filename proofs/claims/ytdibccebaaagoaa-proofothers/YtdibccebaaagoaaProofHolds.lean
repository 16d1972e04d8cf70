/- ProofHolds: the proof of a book tells what the book says, against the book's root. -/
import Derived.Test.YtdibccebaaagoaaProofLive
import Derived.Test.YtdibccebaaagoaaProofRoot
import Derived.Test.YtdibccebaaagoaaGood
import Derived.Test.YtdibccebaaagoaaArgs
import Derived.Test.YtdibccebaaagoaaLaw
namespace Go.Proofs.Ytdibccebaaagoaa
set_option maxRecDepth 100000
open Go.ChangeShapes Go.WideShapes Go.ChangeAt Go.RowKit

theorem good_30 (w : World) (g : Nat) (t : TypeId) (hg : g = w.heap.size) :
    Calls Try.prog 8 #[.slice (some ⟨g, 0, none⟩) 3 3] (w.alloc (.cells #[.int .i64 0, .int .i64 0, .int .i64 0] t)) fun e w' => e = .returned (.bool true) ∧ w.alloc (.cells #[.int .i64 0, .int .i64 0, .int .i64 0] t) = w' :=
  good_any (some ⟨g, 0, none⟩) 3 [0, 0, 0] _ (by simp) true rfl (Row.new w g _ _ t hg rfl)

theorem tell_make {es : List Ent} {n : Bytes} (hg : Good es) (hn : Bin.name n = true) : tellAns (prefMark es []) n (at16 es (Bin.of n)) (sidesOf es n) = ((stands es n).getD [], (stands es n).isSome, 0) := by
  rw [tellAns, if_pos ((verr_ok _ _ _ _).2 ⟨proofOf_good hg hn, proot_of es n⟩), stands_at16]

end Go.Proofs.Ytdibccebaaagoaa
