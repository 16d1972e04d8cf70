/- The check that package chain is there. -/
import Derived.Test.YthkhafgcpmoalaaChainPart
namespace Go.Proofs.Ythkhafgcpmoalaa
set_option maxRecDepth 100000
open Go.RowKit

theorem chain0 : GrowOk [((0 : Int), 0, 0, (0 : Int))] 1 2 := by
  have hg : HGood ((0 : Int), 0, 0, (0 : Int)) := (hfault_ok _).1 (by decide)
  refine ⟨⟨by simp, by simp, fun h hh => ?_, fun i hi => ?_⟩, by simp, ⟨hg, by simp [lastH], by omega, by simp [lastH]⟩⟩
  · rw [List.mem_singleton.1 hh]; exact hg
  · simp at hi
set_option maxHeartbeats 400000 in
theorem chains (w : World) : Calls Try.prog 24 #[] w fun e w' => e = .returned (.bool true) ∧ Below w.heap.size w w' := by
  have hG := fun (w : World) A hA => Lib.hid (chainGrow_ok A 1 [((0 : Int), 0, 0, (0 : Int))] 1 2 w hA chain0)
  have hR := (head_one w ((0 : Int), 0, 0, (0 : Int)) 25)
  have hl : ([((0 : Int), 0, 0, (0 : Int))] ++ [nextOf (lastH [((0 : Int), 0, 0, (0 : Int))]) 1 2]).length = 2 := rfl
  generalize [((0 : Int), 0, 0, (0 : Int))] ++ [nextOf (lastH [((0 : Int), 0, 0, (0 : Int))]) 1 2] = T at *
  have c1 : ((T.length : Int) == 2) = true := beq_iff_eq.2 (by omega)
  clear hl
  go_enter Try.func24, Try.ntmps24
  go_wp2_with fail
  refine (hG _ _ hR).out.mono ?_
  rintro e w1 ⟨D, d, rfl, hown, hb1⟩
  have hb := below_chain ((Below.refl _ w).alloc (Nat.le_refl _) (.cells #[.int .i64 0, .int .u64 0, .int .u64 0, .int .i64 0] 25)) hb1
  clear hG hR hown hb1
  go_wp2
  go_ret
  exact ⟨rfl, hb⟩
end Go.Proofs.Ythkhafgcpmoalaa
