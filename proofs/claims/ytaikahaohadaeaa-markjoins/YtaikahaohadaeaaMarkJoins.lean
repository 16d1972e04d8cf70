/- The law MarkJoins returns true: of two strings, the first with at most 2000 and the second with at most 600 bytes, Join of their hashes and of the second one's length is the hash of their concatenation; nothing that was there is written. No conditions. -/
import Derived.Test.YtaikahaohadaeaaLaw
import Derived.Test.YtaikahaohadaeaaAlike
namespace Go.Proofs.Ytaikahaohadaeaa
open Go.ChangeShapes Go.WideShapes Go.ChangeAt Go.RowKit

set_option maxRecDepth 100000 in
set_option maxHeartbeats 400000 in
theorem markJoins_walk (s t : Bytes) (w : World) (hs : s.length ≤ maxLen) (ht : t.length ≤ maxLen) :
    Calls Try.prog 4 #[.string (S s), .string (S t)] w fun e w' => e = .returned (.bool true) ∧ Below w.heap.size w w' := by
  have hM := fun w => Lib.hid (marked w)
  by_cases h1 : s.length ≤ 2000
  · by_cases h2 : t.length ≤ 600
    · have hS := fun w => Lib.hid (markOf s w hs)
      have hT := fun w => Lib.hid (markOf t w ht)
      have hA := fun w => Lib.hid (markOf (s ++ t) w (by show _ ≤ (2 : Nat) ^ 63 - 1; rw [List.length_append]; omega))
      have hJ := fun w => Lib.hid (markJoin_yes (Hash.of s) (Hash.of t) t.length w (Hash.of_lt s) (Hash.of_lt t) h2)
      rw [Hash.of_join s t] at hJ
      have c1 : decide ((2000 : Int) < (s.length : Int)) = false := decide_eq_false (by omega)
      have c2 : decide ((600 : Int) < (t.length : Int)) = false := decide_eq_false (by omega)
      have hst : s.length + t.length ≤ 2600 := by omega
      clear hs ht h1 h2
      generalize Hash.of s = x at *
      generalize Hash.of t = y at *
      generalize Hash.of (s ++ t) = z at *
      go_enter Try.func4, Try.ntmps4
      go_wp2_with fail
      refine (hM _).out.mono ?_
      rintro e w1 ⟨rfl, m1, rfl⟩
      go_wp2_with fail
      refine (hS _).out.mono ?_
      rintro e w1 ⟨rfl, m2, rfl⟩
      go_wp2_with fail
      refine (hT _).out.mono ?_
      rintro e w1 ⟨rfl, m3, rfl⟩
      go_wp2_with fail
      refine (hJ _).out.mono ?_
      rintro e w1 ⟨rfl, rfl⟩
      go_wp2_with fail
      refine (hA _).out.mono ?_
      rintro e w1 ⟨rfl, m4, rfl⟩
      go_wp2
      go_ret
      exact ⟨rfl, below_of_drewN _ _ _⟩
    · have c1 : decide ((2000 : Int) < (s.length : Int)) = false := decide_eq_false (by omega)
      have c2 : decide ((600 : Int) < (t.length : Int)) = true := decide_eq_true (by omega)
      clear hs ht h1 h2
      go_enter Try.func4, Try.ntmps4
      go_wp2_with fail
      refine (hM _).out.mono ?_
      rintro e w1 ⟨rfl, m1, rfl⟩
      go_wp2
      go_ret
      exact ⟨rfl, below_of_drewN _ _ _⟩
  · have c1 : decide ((2000 : Int) < (s.length : Int)) = true := decide_eq_true (by omega)
    clear hs ht h1
    go_enter Try.func4, Try.ntmps4
    go_wp2_with fail
    refine (hM _).out.mono ?_
    rintro e w1 ⟨rfl, m1, rfl⟩
    go_wp2
    go_ret
    exact ⟨rfl, below_of_drewN _ _ _⟩

set_option maxRecDepth 100000 in
theorem markJoins_lifted (os : Os) (started : os.Started) (H : Type) (enc : TypeId × Value → H) :
    ReturnsInHanded {} Try.checked os 4 .any (Rows.markJoinsSpec.pre6 enc Try.prog Try.f4 Rows.markJoinsRow.domain false) (Rows.markJoinsSpec.post enc Try.prog Try.f4 false true false false) := by
  refine returnsInHanded_of_change (C := Try.checked) own started (by kernel_rfl) Try.func4
    (ChangeSpec.witness6 (enc := enc) (C := Try.checked) false ⟨#[], #[.string ⟨#[]⟩, .string ⟨#[]⟩], []⟩ 8 (by kernel_rfl) (by kernel_rfl) (by kernel_rfl) (by kernel_rfl)) ?_
  intro W base args ds gs before hval0 hW hcnd _
  have hval : ∀ (j : Nat) t v, Try.f4.params[j]? = some t → args[j]? = some v → Value.okWide Try.prog W .any base t v := hval0
  have hW' := hW
  obtain ⟨p, q, hA0, hV, rfl, hfz, hnd⟩ := hW
  have hA : DataW.TrodAll enc Try.prog W 0 (fun _ => true) true Try.f4.params.toList args.toList ds p := hA0
  rw [Try.params4] at hA hval
  obtain ⟨v0, vs0, d0, ds0, p0, q0, hargs, rfl, rfl, h0, r0⟩ := trodAll_cons hA
  obtain ⟨v1, vs1, d1, ds1, p1, q1, rfl, rfl, rfl, h1, r1⟩ := trodAll_cons r0
  obtain ⟨rfl, rfl, rfl⟩ := trodAll_nil r1
  obtain rfl : args = #[v0, v1] := by cases args; simp_all
  obtain ⟨rfl, rfl⟩ := trodVars_none hV
  obtain ⟨l0, rfl, hl0⟩ := arg_str (hval 0 9 v0 rfl rfl) h0
  obtain ⟨l1, rfl, hl1⟩ := arg_str (hval 1 9 v1 rfl rfl) h1
  refine (markJoins_walk l0 l1 W hl0 hl1).mono fun e W' ⟨he, hb⟩ => ?_
  subst he
  exact ⟨_, rfl, post_law laidOut (by decide +kernel) rfl Try.underlying4 (by kernel_rfl) hW' rfl hb⟩

/-- The statement. -/
theorem markJoins_said : Rows.MarkJoinsSaid :=
  OpenClaim.holds_of_wide 4 Try.f4 rfl rfl rfl rfl rfl rfl rfl ⟨rfl, rfl, rfl, rfl, rfl⟩ rfl rfl rfl rfl rfl (by kernel_rfl) Try.func4 (by kernel_rfl)
    (of_decide_eq_true (by kernel_rfl)) (by unfold Func.isWrapper; first | (rw [if_pos (by decide +kernel)]; kernel_rfl) | (rw [if_neg (by decide +kernel)]; exact ⟨rfl, rfl⟩))
    (fun os started H enc _ => markJoins_lifted os started H enc)
#print axioms markJoins_said
end Go.Proofs.Ytaikahaohadaeaa
