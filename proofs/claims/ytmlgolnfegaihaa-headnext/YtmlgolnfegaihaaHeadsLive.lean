/- The check that package head is there. -/
import Derived.Test.YtmlgolnfegaihaaHead
namespace Go.Proofs.Ytmlgolnfegaihaa
set_option maxRecDepth 100000
open Go.RowKit

theorem heads (w : World) : Calls Try.prog 16 #[] w fun e w' => e = .returned (.bool true) ∧ Below w.heap.size w w' := by
  have hS : ∀ w : World, Hid (Calls Try.prog 6 #[.agg #[.int .i64 0, .int .u64 0, .int .u64 0, .int .i64 0]] w fun e w' => e = .returned (.tuple #[.string (S (hsaid (0, 0, 0, 0))), .int .i64 0]) ∧ Below w.heap.size w w') := fun w => Lib.hid (headSaid_yes 0 0 0 0 w ((hfault_ok _).1 (by decide)) _ rfl)
  have hl := hsaid_length (0, 0, 0, 0)
  generalize hsaid (0, 0, 0, 0) = s at *
  go_enter Try.func16, Try.ntmps16
  go_wp2_with fail
  refine (hS _).out.mono ?_
  rintro e w1 ⟨rfl, hb1⟩
  have c1 : ((s.length : Int) == 33) = true := beq_iff_eq.2 (by omega)
  clear hl
  go_wp2
  go_ret
  exact ⟨rfl, hb1⟩
end Go.Proofs.Ytmlgolnfegaihaa
