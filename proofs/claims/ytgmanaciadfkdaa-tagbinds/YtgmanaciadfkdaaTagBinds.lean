/- The law TagBinds returns true: where a number is the tag of two different strings with one key, the two strings with the key in front and behind are a collision. Nothing that was there is written. No conditions. -/
import Derived.Test.YtgmanaciadfkdaaTagHolds
import Derived.Test.YtgmanaciadfkdaaAlike
namespace Go.Proofs.Ytgmanaciadfkdaa
set_option maxRecDepth 100000
open Go.ChangeShapes Go.WideShapes Go.ChangeAt Go.RowKit

set_option maxHeartbeats 1000000 in
theorem tagBinds_walk (key : Nat) (s t : Bytes) (x : Nat) (w : World) (hk : key < 18446744073709551616) (hs : s.length ≤ maxLen) (ht : t.length ≤ maxLen) :
    Calls Try.prog 5 #[.int .u64 (key : Int), .string (S s), .string (S t), .int .u64 (x : Int)] w fun e w' => e = .returned (.bool true) ∧ Below w.heap.size w w' := by
  have hL := fun w => Lib.hid (tags w)
  unfold maxLen at hs ht
  by_cases h1 : s.length ≤ 1000
  case neg =>
    have c1 : decide ((1000 : Int) < (s.length : Int)) = true := decide_eq_true (by omega)
    clear h1 hk
    go_enter Try.func5, Try.ntmps5
    go_wp2_with fail
    refine (hL _).out.mono ?_
    rintro e w1 ⟨rfl, hb1⟩
    go_wp2
    go_ret
    exact ⟨rfl, hb1⟩
  have c1 : decide ((1000 : Int) < (s.length : Int)) = false := decide_eq_false (by omega)
  by_cases h2 : t.length ≤ 1000
  case neg =>
    have c2 : decide ((1000 : Int) < (t.length : Int)) = true := decide_eq_true (by omega)
    clear h1 h2 hk
    go_enter Try.func5, Try.ntmps5
    go_wp2_with fail
    refine (hL _).out.mono ?_
    rintro e w1 ⟨rfl, hb1⟩
    go_wp2
    go_ret
    exact ⟨rfl, hb1⟩
  have c2 : decide ((1000 : Int) < (t.length : Int)) = false := decide_eq_false (by omega)
  by_cases h3 : s = t
  case pos =>
    subst h3
    clear h1 h2 hk
    go_enter Try.func5, Try.ntmps5
    go_wp2_with fail
    refine (hL _).out.mono ?_
    rintro e w1 ⟨rfl, hb1⟩
    go_wp2
    go_ret
    exact ⟨rfl, hb1⟩
  have c3 : (s == t) = false := beq_eq_false_iff_ne.2 h3
  have hR := fun w => Lib.hid (tagRight key s x w hk (by omega) _ rfl)
  cases h4 : (tagOf key s == x) with
  | false =>
    rw [h4] at hR
    clear h1 h2 h3 hk h4
    go_enter Try.func5, Try.ntmps5
    go_wp2_with fail
    refine (hL _).out.mono ?_
    rintro e w1 ⟨rfl, hb1⟩
    go_wp2_with fail
    refine (hR _).out.mono ?_
    rintro e w2 ⟨rfl, hb2⟩
    go_wp2
    go_ret
    exact ⟨rfl, below_chain hb1 hb2⟩
  | true =>
    rw [h4] at hR
    have hQ := fun w => Lib.hid (tagRight key t x w hk (by omega) _ rfl)
    cases h5 : (tagOf key t == x) with
    | false =>
      rw [h5] at hQ
      clear h1 h2 h3 hk h4 h5
      go_enter Try.func5, Try.ntmps5
      go_wp2_with fail
      refine (hL _).out.mono ?_
      rintro e w1 ⟨rfl, hb1⟩
      go_wp2_with fail
      refine (hR _).out.mono ?_
      rintro e w2 ⟨rfl, hb2⟩
      go_wp2_with fail
      refine (hQ _).out.mono ?_
      rintro e w3 ⟨rfl, hb3⟩
      go_wp2
      go_ret
      exact ⟨rfl, below_chain (below_chain hb1 hb2) hb3⟩
    | true =>
      rw [h5] at hQ
      have hN := fun w => Lib.hid (num_any key w hk)
      have hl : (be8 key).length = 8 := rfl
      have hA := fun w => Lib.hid (markAlike (be8 key ++ s ++ be8 key) (be8 key ++ t ++ be8 key) w (by rw [List.length_append, List.length_append, hl]; unfold maxLen; omega) (by rw [List.length_append, List.length_append, hl]; unfold maxLen; omega) true (by
        rw [alikeB_iff]
        refine ⟨fun e => h3 ?_, ?_⟩
        · exact List.append_cancel_left (List.append_cancel_right e)
        · have e4 := beq_iff_eq.1 h4
          have e5 := beq_iff_eq.1 h5
          exact e4.trans e5.symm))
      generalize be8 key = b at *
      clear h3 hk h4 h5
      go_enter Try.func5, Try.ntmps5
      go_wp2_with fail
      refine (hL _).out.mono ?_
      rintro e w1 ⟨rfl, hb1⟩
      go_wp2_with fail
      refine (hR _).out.mono ?_
      rintro e w2 ⟨rfl, hb2⟩
      go_wp2_with fail
      refine (hQ _).out.mono ?_
      rintro e w3 ⟨rfl, hb3⟩
      go_wp2_with fail
      refine (hN _).out.mono ?_
      rintro e w4 ⟨rfl, hb4⟩
      go_wp2_with fail
      refine Calls.mono (P := Try.prog) (by simpa using (hA w4).out) ?_
      rintro e w5 ⟨rfl, m, rfl⟩
      go_wp2
      go_ret
      exact ⟨rfl, below_drewN (below_chain (below_chain (below_chain hb1 hb2) hb3) hb4) _⟩

set_option maxRecDepth 100000 in
theorem tagBinds_lifted (os : Os) (started : os.Started) (H : Type) (enc : TypeId × Value → H) :
    ReturnsInHanded {} Try.checked os 5 .any (Rows.tagBindsSpec.pre6 enc Try.prog Try.f5 Rows.tagBindsRow.domain false) (Rows.tagBindsSpec.post enc Try.prog Try.f5 false true false false) := by
  refine returnsInHanded_of_change (C := Try.checked) own started (by kernel_rfl) Try.func5
    (ChangeSpec.witness6 (enc := enc) (C := Try.checked) false ⟨#[], #[.int .u64 0, .string ⟨#[]⟩, .string ⟨#[]⟩, .int .u64 0], []⟩ 8 (by kernel_rfl) (by kernel_rfl) (by kernel_rfl) (by kernel_rfl)) ?_
  intro W base args ds gs before hval0 hW hcnd _
  have hval : ∀ (j : Nat) t v, Try.f5.params[j]? = some t → args[j]? = some v → Value.okWide Try.prog W .any base t v := hval0
  have hW' := hW
  obtain ⟨p, q, hA0, hV, rfl, hfz, hnd⟩ := hW
  have hA : DataW.TrodAll enc Try.prog W 0 (fun _ => true) true Try.f5.params.toList args.toList ds p := hA0
  rw [Try.params5] at hA hval
  obtain ⟨v0, vs0, d0, ds0, p0, q0, hargs, rfl, rfl, h0, r0⟩ := trodAll_cons hA
  obtain ⟨v1, vs1, d1, ds1, p1, q1, rfl, rfl, rfl, h1, r1⟩ := trodAll_cons r0
  obtain ⟨v2, vs2, d2, ds2, p2, q2, rfl, rfl, rfl, h2, r2⟩ := trodAll_cons r1
  obtain ⟨v3, vs3, d3, ds3, p3, q3, rfl, rfl, rfl, h3, r3⟩ := trodAll_cons r2
  obtain ⟨rfl, rfl, rfl⟩ := trodAll_nil r3
  obtain rfl : args = #[v0, v1, v2, v3] := by cases args; simp_all
  obtain ⟨rfl, rfl⟩ := trodVars_none hV
  obtain ⟨n0, rfl, hn0⟩ := arg_u64 (hval 0 22 v0 rfl rfl) h0
  obtain ⟨l1, rfl, hl1⟩ := arg_str (hval 1 9 v1 rfl rfl) h1
  obtain ⟨l2, rfl, hl2⟩ := arg_str (hval 2 9 v2 rfl rfl) h2
  obtain ⟨n3, rfl, hn3⟩ := arg_u64 (hval 3 22 v3 rfl rfl) h3
  refine (tagBinds_walk n0 l1 l2 n3 W hn0 hl1 hl2).mono fun e W' ⟨he, hb⟩ => ?_
  subst he
  exact ⟨_, rfl, post_law laidOut (by decide +kernel) rfl Try.underlying4 (by kernel_rfl) hW' rfl hb⟩

/-- The statement. -/
theorem tagBinds_said : Rows.TagBindsSaid :=
  OpenClaim.holds_of_wide 5 Try.f5 rfl rfl rfl rfl rfl rfl rfl ⟨rfl, rfl, rfl, rfl, rfl⟩ rfl rfl rfl rfl rfl (by kernel_rfl) Try.func5 (by kernel_rfl)
    (of_decide_eq_true (by kernel_rfl)) (by unfold Func.isWrapper; first | (rw [if_pos (by decide +kernel)]; kernel_rfl) | (rw [if_neg (by decide +kernel)]; exact ⟨rfl, rfl⟩))
    (fun os started H enc _ => tagBinds_lifted os started H enc)
#print axioms tagBinds_said
end Go.Proofs.Ytgmanaciadfkdaa
