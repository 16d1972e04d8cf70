/- The law Names returns true: the numbers of package api are those of the document; nothing that was there is written. No conditions. -/
import Derived.Test.YtbfdbibknhoigaaLaw
import Derived.Test.YtbfdbibknhoigaaEqInts
namespace Go.Proofs.Ytbfdbibknhoigaa
open Go.ChangeShapes Go.WideShapes Go.ChangeAt Go.RowKit

theorem ten_at (k : Nat) (h : k < 10) : [Value.int .i64 0, .int .i64 1, .int .i64 2, .int .i64 3, .int .i64 4, .int .i64 5, .int .i64 6, .int .i64 7, .int .i64 8, .int .i64 9][k]'(by simpa using h) = .int .i64 (k : Int) := by
  have h' : k = 0 ∨ k = 1 ∨ k = 2 ∨ k = 3 ∨ k = 4 ∨ k = 5 ∨ k = 6 ∨ k = 7 ∨ k = 8 ∨ k = 9 := by omega
  rcases h' with rfl | rfl | rfl | rfl | rfl | rfl | rfl | rfl | rfl | rfl <;> rfl

set_option maxRecDepth 100000 in
set_option maxHeartbeats 1000000 in
theorem names_walk (w : World) :
    Calls Try.prog 3 #[] w fun e w' => e = .returned (.bool true) ∧ Below w.heap.size w w' := by
  go_enter Try.func3, Try.ntmps3
  go_wp2
  go_loop [8] (fun i => ∃ k : Nat, k ≤ 10 ∧ i = .int .i64 k) (fun i => 10 - (intOf i).toNat)
  case atStart => exact ⟨0, Nat.zero_le _, rfl⟩
  case round =>
    obtain ⟨k, hk, rfl⟩ := hrel
    by_cases hlt : k < 10
    · have hv := ten_at k hlt
      have hne : ((k : Int) != (k : Int)) = false := by simp
      go_wp2
      go_round
      case rel => exact ⟨k + 1, by omega, by go_num⟩
      case measure => simp [intOf]; omega
    · go_wp2_with fail
      refine (eqInts_same _ _ _ _ [0, 1, 2, 3, 4, 5, 6, 1, 2, 3, 4, 1, 2, 3] _ (by simp [maxLen]) ?_ ?_).mono ?_
      · exact ((Row.new _ _ _ _ _ (by simp) rfl).alloc _).alloc _
      · exact Row.new _ _ _ _ _ (by simp) rfl
      rintro e w' ⟨rfl, m, rfl⟩
      go_wp2_with fail
      refine (eqInts_same _ _ _ _ [600, 60, 24, 12, 20, 16, 40, 1000000, 1000000000, 30, 30, 8, 60, 4, 200, 100, 16, 60] _ (by simp [maxLen]) ?_ ?_).mono ?_
      · exact (((Row.new _ _ _ _ _ (by simp) rfl).alloc _).drewN _).alloc _
      · exact Row.new _ _ _ _ _ (by simp) rfl
      rintro e w' ⟨rfl, m', rfl⟩
      go_wp2
      go_ret
      refine ⟨rfl, below_drewN (Below.alloc (below_drewN (Below.alloc (Below.alloc (Below.alloc (Below.alloc (Below.refl _ _) ?_ _) ?_ _) ?_ _) ?_ _) _) ?_ _) _⟩ <;> simp <;> omega

set_option maxRecDepth 100000 in
theorem names_lifted (os : Os) (started : os.Started) (H : Type) (enc : TypeId × Value → H) :
    ReturnsInHanded {} Try.checked os 3 .any (Rows.namesSpec.pre6 enc Try.prog Try.f3 Rows.namesRow.domain false) (Rows.namesSpec.post enc Try.prog Try.f3 false true false false) := by
  refine returnsInHanded_of_change (C := Try.checked) own started (by kernel_rfl) Try.func3
    (ChangeSpec.witness6 (enc := enc) (C := Try.checked) false ⟨#[], #[], []⟩ 8 (by kernel_rfl) (by kernel_rfl) (by kernel_rfl) (by kernel_rfl)) ?_
  intro W base args ds gs before hval0 hW hcnd _
  have hW' := hW
  obtain ⟨p, q, hA0, hV, rfl, hfz, hnd⟩ := hW
  have hA : DataW.TrodAll enc Try.prog W 0 (fun _ => true) true Try.f3.params.toList args.toList ds p := hA0
  rw [Try.params3] at hA
  obtain ⟨rfl, rfl, rfl⟩ := trodAll_none hA
  obtain ⟨rfl, rfl⟩ := trodVars_none hV
  refine (names_walk W).mono fun e W' ⟨he, hb⟩ => ?_
  subst he
  exact ⟨_, rfl, post_law laidOut (by decide +kernel) rfl Try.underlying4 (by kernel_rfl) hW' rfl hb⟩

/-- The statement. -/
theorem names_said : Rows.NamesSaid :=
  OpenClaim.holds_of_wide 3 Try.f3 rfl rfl rfl rfl rfl rfl rfl ⟨rfl, rfl, rfl, rfl, rfl⟩ rfl rfl rfl rfl rfl (by kernel_rfl) Try.func3 (by kernel_rfl)
    (of_decide_eq_true (by kernel_rfl)) (by unfold Func.isWrapper; first | (rw [if_pos (by decide +kernel)]; kernel_rfl) | (rw [if_neg (by decide +kernel)]; exact ⟨rfl, rfl⟩))
    (fun os started H enc _ => names_lifted os started H enc)
#print axioms names_said
end Go.Proofs.Ytbfdbibknhoigaa
