/- The law MarkAlike returns true: of strings with at most 1000 bytes, a collision is one the other way round, no string collides with itself, and a collision stays one with a string behind both, or, where both are as long, ahead of both; nothing that was there is written. No conditions. -/
import Derived.Test.YtaikahaohadaeaaLaw
import Derived.Test.YtaikahaohadaeaaAlike
namespace Go.Proofs.Ytaikahaohadaeaa
open Go.ChangeShapes Go.WideShapes Go.ChangeAt Go.RowKit

theorem alikeB_comm (s t : Bytes) : alikeB t s = alikeB s t := by
  rw [Bool.eq_iff_iff, alikeB_iff, alikeB_iff]
  exact ⟨fun h => ⟨h.1.symm, h.2.symm⟩, fun h => ⟨h.1.symm, h.2.symm⟩⟩
theorem alikeB_self (s : Bytes) : alikeB s s = false := by simp [alikeB]
theorem alikeB_back (s t u : Bytes) (h : alikeB s t = true) : alikeB (s ++ u) (t ++ u) = true := by
  rw [alikeB_iff] at h ⊢
  exact ⟨fun e => h.1 (List.append_cancel_right e), Hash.of_back s t u h.2⟩
theorem alikeB_front (s t u : Bytes) (hl : s.length = t.length) (h : alikeB s t = true) : alikeB (u ++ s) (u ++ t) = true := by
  rw [alikeB_iff] at h ⊢
  exact ⟨fun e => h.1 (List.append_cancel_left e), Hash.of_front s t u hl h.2⟩

set_option maxRecDepth 100000 in
set_option maxHeartbeats 400000 in
theorem alike_long (s t u : Bytes) (w : World) (c1 c2 c3 : Bool) (h1 : decide ((1000 : Int) < (s.length : Int)) = c1) (h2 : decide ((1000 : Int) < (t.length : Int)) = c2) (h3 : decide ((1000 : Int) < (u.length : Int)) = c3) (hc : (c1 || c2 || c3) = true) :
    Calls Try.prog 5 #[.string (S s), .string (S t), .string (S u)] w fun e w' => e = .returned (.bool true) ∧ Below w.heap.size w w' := by
  have hM := fun w => Lib.hid (marked w)
  cases c1
  · cases c2
    · cases c3
      · simp at hc
      · go_enter Try.func5, Try.ntmps5
        go_wp2_with fail
        refine (hM _).out.mono ?_
        rintro e w1 ⟨rfl, m1, rfl⟩
        go_wp2
        go_ret
        exact ⟨rfl, below_of_drewN _ _ _⟩
    · go_enter Try.func5, Try.ntmps5
      go_wp2_with fail
      refine (hM _).out.mono ?_
      rintro e w1 ⟨rfl, m1, rfl⟩
      go_wp2
      go_ret
      exact ⟨rfl, below_of_drewN _ _ _⟩
  · go_enter Try.func5, Try.ntmps5
    go_wp2_with fail
    refine (hM _).out.mono ?_
    rintro e w1 ⟨rfl, m1, rfl⟩
    go_wp2
    go_ret
    exact ⟨rfl, below_of_drewN _ _ _⟩

set_option maxRecDepth 100000 in
set_option maxHeartbeats 400000 in
theorem alike_short (s t u : Bytes) (w : World) (h1 : s.length ≤ 1000) (h2 : t.length ≤ 1000) (h3 : u.length ≤ 1000) :
    Calls Try.prog 5 #[.string (S s), .string (S t), .string (S u)] w fun e w' => e = .returned (.bool true) ∧ Below w.heap.size w w' := by
  have hM := fun w => Lib.hid (marked w)
  have c1 : decide ((1000 : Int) < (s.length : Int)) = false := decide_eq_false (by omega)
  have c2 : decide ((1000 : Int) < (t.length : Int)) = false := decide_eq_false (by omega)
  have c3 : decide ((1000 : Int) < (u.length : Int)) = false := decide_eq_false (by omega)
  have lng : ∀ l : Bytes, l.length ≤ 2000 → l.length ≤ maxLen := fun l hl => by show _ ≤ (2 : Nat) ^ 63 - 1; omega
  have hN := fun w => Lib.hid (markAlike s s w (lng _ (by omega)) (lng _ (by omega)) false (alikeB_self s))
  cases hA : alikeB s t with
  | false =>
    have hST := fun w => Lib.hid (markAlike s t w (lng _ (by omega)) (lng _ (by omega)) false hA)
    have hTS := fun w => Lib.hid (markAlike t s w (lng _ (by omega)) (lng _ (by omega)) false (by rw [alikeB_comm, hA]))
    clear hA lng h1 h2 h3
    go_enter Try.func5, Try.ntmps5
    go_wp2_with fail
    refine (hM _).out.mono ?_
    rintro e w1 ⟨rfl, m1, rfl⟩
    go_wp2_with fail
    refine (hST _).out.mono ?_
    rintro e w1 ⟨rfl, m2, rfl⟩
    go_wp2_with fail
    refine (hTS _).out.mono ?_
    rintro e w1 ⟨rfl, m3, rfl⟩
    go_wp2_with fail
    refine (hN _).out.mono ?_
    rintro e w1 ⟨rfl, m4, rfl⟩
    go_wp2
    go_ret
    exact ⟨rfl, below_of_drewN _ _ _⟩
  | true =>
    have hST := fun w => Lib.hid (markAlike s t w (lng _ (by omega)) (lng _ (by omega)) true hA)
    have hTS := fun w => Lib.hid (markAlike t s w (lng _ (by omega)) (lng _ (by omega)) true (by rw [alikeB_comm, hA]))
    have hB := fun w => Lib.hid (markAlike (s ++ u) (t ++ u) w (lng _ (by rw [List.length_append]; omega)) (lng _ (by rw [List.length_append]; omega)) true (alikeB_back s t u hA))
    have l1 : s.length + u.length ≤ 2000 := by omega
    have l2 : t.length + u.length ≤ 2000 := by omega
    have l3 : u.length + s.length ≤ 2000 := by omega
    have l4 : u.length + t.length ≤ 2000 := by omega
    by_cases hl : s.length = t.length
    · have hF := fun w => Lib.hid (markAlike (u ++ s) (u ++ t) w (lng _ (by rw [List.length_append]; omega)) (lng _ (by rw [List.length_append]; omega)) true (alikeB_front s t u hl hA))
      have c4 : ((s.length : Int) != (t.length : Int)) = false := by simp [hl]
      clear hA lng h1 h2 h3 hl
      go_enter Try.func5, Try.ntmps5
      go_wp2_with fail
      refine (hM _).out.mono ?_
      rintro e w1 ⟨rfl, m1, rfl⟩
      go_wp2_with fail
      refine (hST _).out.mono ?_
      rintro e w1 ⟨rfl, m2, rfl⟩
      go_wp2_with fail
      refine (hTS _).out.mono ?_
      rintro e w1 ⟨rfl, m3, rfl⟩
      go_wp2_with fail
      refine (hN _).out.mono ?_
      rintro e w1 ⟨rfl, m4, rfl⟩
      go_wp2_with fail
      refine (hB _).out.mono ?_
      rintro e w1 ⟨rfl, m5, rfl⟩
      go_wp2_with fail
      refine (hF _).out.mono ?_
      rintro e w1 ⟨rfl, m6, rfl⟩
      go_wp2
      go_ret
      exact ⟨rfl, below_of_drewN _ _ _⟩
    · have c4 : ((s.length : Int) != (t.length : Int)) = true := by simp; omega
      clear hA lng h1 h2 h3 hl
      go_enter Try.func5, Try.ntmps5
      go_wp2_with fail
      refine (hM _).out.mono ?_
      rintro e w1 ⟨rfl, m1, rfl⟩
      go_wp2_with fail
      refine (hST _).out.mono ?_
      rintro e w1 ⟨rfl, m2, rfl⟩
      go_wp2_with fail
      refine (hTS _).out.mono ?_
      rintro e w1 ⟨rfl, m3, rfl⟩
      go_wp2_with fail
      refine (hN _).out.mono ?_
      rintro e w1 ⟨rfl, m4, rfl⟩
      go_wp2_with fail
      refine (hB _).out.mono ?_
      rintro e w1 ⟨rfl, m5, rfl⟩
      go_wp2
      go_ret
      exact ⟨rfl, below_of_drewN _ _ _⟩

theorem markAlike_walk (s t u : Bytes) (w : World) :
    Calls Try.prog 5 #[.string (S s), .string (S t), .string (S u)] w fun e w' => e = .returned (.bool true) ∧ Below w.heap.size w w' := by
  by_cases h : s.length ≤ 1000 ∧ t.length ≤ 1000 ∧ u.length ≤ 1000
  · exact alike_short s t u w h.1 h.2.1 h.2.2
  · refine alike_long s t u w _ _ _ rfl rfl rfl ?_
    simp only [Bool.or_eq_true, decide_eq_true_eq]
    omega

set_option maxRecDepth 100000 in
theorem markAlike_lifted (os : Os) (started : os.Started) (H : Type) (enc : TypeId × Value → H) :
    ReturnsInHanded {} Try.checked os 5 .any (Rows.markAlikeSpec.pre6 enc Try.prog Try.f5 Rows.markAlikeRow.domain false) (Rows.markAlikeSpec.post enc Try.prog Try.f5 false true false false) := by
  refine returnsInHanded_of_change (C := Try.checked) own started (by kernel_rfl) Try.func5
    (ChangeSpec.witness6 (enc := enc) (C := Try.checked) false ⟨#[], #[.string ⟨#[]⟩, .string ⟨#[]⟩, .string ⟨#[]⟩], []⟩ 8 (by kernel_rfl) (by kernel_rfl) (by kernel_rfl) (by kernel_rfl)) ?_
  intro W base args ds gs before hval0 hW hcnd _
  have hval : ∀ (j : Nat) t v, Try.f5.params[j]? = some t → args[j]? = some v → Value.okWide Try.prog W .any base t v := hval0
  have hW' := hW
  obtain ⟨p, q, hA0, hV, rfl, hfz, hnd⟩ := hW
  have hA : DataW.TrodAll enc Try.prog W 0 (fun _ => true) true Try.f5.params.toList args.toList ds p := hA0
  rw [Try.params5] at hA hval
  obtain ⟨v0, vs0, d0, ds0, p0, q0, hargs, rfl, rfl, h0, r0⟩ := trodAll_cons hA
  obtain ⟨v1, vs1, d1, ds1, p1, q1, rfl, rfl, rfl, h1, r1⟩ := trodAll_cons r0
  obtain ⟨v2, vs2, d2, ds2, p2, q2, rfl, rfl, rfl, h2, r2⟩ := trodAll_cons r1
  obtain ⟨rfl, rfl, rfl⟩ := trodAll_nil r2
  obtain rfl : args = #[v0, v1, v2] := by cases args; simp_all
  obtain ⟨rfl, rfl⟩ := trodVars_none hV
  obtain ⟨l0, rfl, hl0⟩ := arg_str (hval 0 9 v0 rfl rfl) h0
  obtain ⟨l1, rfl, hl1⟩ := arg_str (hval 1 9 v1 rfl rfl) h1
  obtain ⟨l2, rfl, hl2⟩ := arg_str (hval 2 9 v2 rfl rfl) h2
  refine (markAlike_walk l0 l1 l2 W).mono fun e W' ⟨he, hb⟩ => ?_
  subst he
  exact ⟨_, rfl, post_law laidOut (by decide +kernel) rfl Try.underlying4 (by kernel_rfl) hW' rfl hb⟩

/-- The statement. -/
theorem markAlike_said : Rows.MarkAlikeSaid :=
  OpenClaim.holds_of_wide 5 Try.f5 rfl rfl rfl rfl rfl rfl rfl ⟨rfl, rfl, rfl, rfl, rfl⟩ rfl rfl rfl rfl rfl (by kernel_rfl) Try.func5 (by kernel_rfl)
    (of_decide_eq_true (by kernel_rfl)) (by unfold Func.isWrapper; first | (rw [if_pos (by decide +kernel)]; kernel_rfl) | (rw [if_neg (by decide +kernel)]; exact ⟨rfl, rfl⟩))
    (fun os started H enc _ => markAlike_lifted os started H enc)
#print axioms markAlike_said
end Go.Proofs.Ytaikahaohadaeaa
