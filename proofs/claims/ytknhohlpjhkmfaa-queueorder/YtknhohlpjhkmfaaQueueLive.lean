/- The check that package queue is there. -/
import Derived.Test.YtknhohlpjhkmfaaQueueTake
namespace Go.Proofs.Ytknhohlpjhkmfaa
set_option maxRecDepth 100000
open Go.RowKit

set_option maxHeartbeats 1000000 in
theorem queues (w : World) : Calls Try.prog 15 #[] w fun e w' => e = .returned (.bool true) ∧ Below w.heap.size w w' := by
  have hW : ∀ w : World, Hid (Calls Try.prog 8 #[.int .i64 3, .int .i64 2, .int .i64 5] w fun e w' => e = .returned (.tuple #[.int .i64 10, .int .i64 0]) ∧ w = w') := fun w => Lib.hid (queueWait_ok 3 2 5 w (by decide) (by decide) (by decide) (by decide) (by decide) 10 rfl)
  have hP : ∀ w : World, Hid (Calls Try.prog 6 #[.agg #[.int .i64 1, .slice none 0 0], .agg #[.string ⟨#[97]⟩, .string ⟨#[]⟩, .int .u64 0, .int .u64 0]] w (QueueGives 1 ([] ++ [([97], [], 0, 0)]) (.int .i64 0) w)) := fun w =>
    Lib.hid (queuePut_ok 1 none 0 [] [97] [] 0 0 w ((qfault_ok _ _).1 (by decide)) (by simp) (by simp; decide) (by simp) (Row.nil_ _ _) (by decide) (by simp))
  have hl : ([] ++ [(([97], [], 0, 0) : Ak)]).length = 1 := rfl
  generalize [] ++ [(([97], [], 0, 0) : Ak)] = T at *
  have c1 : ((T.length : Int) == 1) = true := beq_iff_eq.2 (by omega)
  clear hl
  go_enter Try.func15, Try.ntmps15
  go_wp2_with fail
  refine (hW _).out.mono ?_
  rintro e w1 ⟨rfl, hw⟩
  subst hw
  go_wp2_with fail
  refine (hP _).out.mono ?_
  rintro e w1 ⟨D, d, rfl, hown, hb1⟩
  have hb2 := hb1.alloc hb1.size (.cells #[.int .i64 1, .slice D T.length d] 24)
  have hz := (Bx.new w1 _ rfl _ [.int .i64 1, .slice D T.length d] 24 rfl).get2.1
  obtain ⟨z0, z1⟩ := hz
  clear hW hP hown hb1
  go_wp2
  go_ret
  exact ⟨rfl, hb2⟩
end Go.Proofs.Ytknhohlpjhkmfaa
