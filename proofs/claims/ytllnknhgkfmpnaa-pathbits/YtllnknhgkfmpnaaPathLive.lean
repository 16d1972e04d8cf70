/- The check that package path is there returns true. -/
import Derived.Test.YtllnknhgkfmpnaaPathOf
namespace Go.Proofs.Ytllnknhgkfmpnaa
open Go.RowKit

theorem pathOf_a (w : World) : Calls Try.prog 6 #[.string ⟨#[97]⟩] w fun e w' => e = .returned (.tuple #[.string (S (Bin.of [97])), .int .i64 0]) ∧ Below w.heap.size w w' := pathOf_yes [97] w (by decide)

set_option maxHeartbeats 400000 in
theorem pathsLive (w : World) : Calls Try.prog 18 #[] w fun e w' => e = .returned (.bool true) ∧ Below w.heap.size w w' := by
  have h1 := fun w => Lib.hid (pathOf_a w)
  have hp := Bin.of_length [97]
  generalize Bin.of [97] = p at *
  go_enter Try.func18, Try.ntmps18
  go_wp2_with fail
  refine (h1 _).out.mono ?_
  rintro e w1 ⟨rfl, hb⟩
  go_wp2
  go_ret
  exact ⟨rfl, hb⟩

end Go.Proofs.Ytllnknhgkfmpnaa
