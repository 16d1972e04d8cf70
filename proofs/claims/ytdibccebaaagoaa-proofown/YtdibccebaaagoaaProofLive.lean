/- The check that package proof is built returns true. -/
import Derived.Test.YtdibccebaaagoaaProofMake
namespace Go.Proofs.Ytdibccebaaagoaa
set_option maxRecDepth 100000
open Go.RowKit

theorem good_none : Good [] := ⟨by simp, fun x hx => by simp at hx, fun x hx => by simp at hx, by simp⟩
theorem make_live (w : World) : Calls Try.prog 16 #[.slice none 0 0, .string ⟨#[97]⟩] w fun e w' => ∃ A k c B d, e = .returned (.tuple #[.agg #[.string ⟨#[97]⟩, .slice A k c, .slice B 16 d], .int .i64 0]) ∧ Below w.heap.size w w' := by
  have hn : Bin.name [97] = true := by decide
  have h := proofMake_yes none 0 [] [97] w good_none hn (Row.nil_ _ _)
  refine h.mono ?_
  rintro e w' ⟨A, c, B, d, rfl, _, _, _, hb⟩
  rw [sidesOf_length]
  exact ⟨A, _, c, B, d, rfl, hb⟩

set_option maxHeartbeats 400000 in
theorem proofs (w : World) : Calls Try.prog 5 #[] w fun e w' => e = .returned (.bool true) ∧ Below w.heap.size w w' := by
  have h := fun w => Lib.hid (make_live w)
  go_enter Try.func5, Try.ntmps5
  go_wp2_with fail
  refine (h _).out.mono ?_
  rintro e w1 ⟨A, k, c, B, d, rfl, hb⟩
  go_wp2
  go_ret
  exact ⟨rfl, hb.alloc hb.size _⟩
end Go.Proofs.Ytdibccebaaagoaa
