/- The law ChangeNone returns true: a book does not differ from itself, two books differ alike from each other, and in nothing only where they are the same. No conditions. -/
import Derived.Test.YtmmmolbejfdamaaChangeLook
import Derived.Test.YtmmmolbejfdamaaEqs
import Derived.Test.YtmmmolbejfdamaaArgs
import Derived.Test.YtmmmolbejfdamaaLaw
namespace Go.Proofs.Ytmmmolbejfdamaa
open Go.ChangeShapes Go.WideShapes Go.ChangeAt Go.RowKit

set_option maxRecDepth 100000 in
set_option maxHeartbeats 1000000 in
theorem changeNone_walk (A B : Option Addr) (c d : Nat) (a b : List Ent) (w : World) (hma : a.length ≤ maxLen) (hea : ∀ x ∈ a, x.1.length ≤ maxLen ∧ x.2.length ≤ maxLen) (hmb : b.length ≤ maxLen) (heb : ∀ x ∈ b, x.1.length ≤ maxLen ∧ x.2.length ≤ maxLen) (hA : Row w A (encells a)) (hB : Row w B (encells b)) :
    Calls Try.prog 5 #[.slice A a.length c, .slice B b.length d] w fun e w' => e = .returned (.bool true) ∧ Below w.heap.size w w' := by
  have hL := fun w => Lib.hid (changes w)
  have h1 := fun (w : World) hA hA' => Lib.hid (changeDiff A A c c a a w hma hea hma hea hA hA' _ rfl _ rfl)
  have h2 := fun (w : World) hA hB => Lib.hid (changeDiff A B c d a b w hma hea hmb heb hA hB _ rfl _ rfl)
  have h3 := fun (w : World) hB hA => Lib.hid (changeDiff B A d c b a w hmb heb hma hea hB hA _ rfl _ rfl)
  by_cases hg : Good a ∧ Good b
  · obtain ⟨ha, hb⟩ := hg
    have e1 : diffErr a a = 0 := (diffErr_ok a a).2 ⟨ha, ha⟩
    have e2 : diffErr a b = 0 := (diffErr_ok a b).2 ⟨ha, hb⟩
    have e3 : diffErr b a = 0 := (diffErr_ok b a).2 ⟨hb, ha⟩
    have f1 : diffRes a a = [] := by rw [diffRes, if_pos e1]; exact differ_self a
    have f2 : diffRes a b = differ a b := by rw [diffRes, if_pos e2]
    have f3 : diffRes b a = differ a b := by rw [diffRes, if_pos e3]; exact differ_comm b a
    rw [e1, f1] at h1
    rw [e2, f2] at h2
    rw [e3, f3] at h3
    have hnil := differ_nil ha.order hb.order
    have hdl := differ_le a b
    have hla := ha.len
    have hlb := hb.len
    have hq := fun (D E : Option Addr) (x y : Nat) (w : World) hD hE => Lib.hid (eqStrs D E x y (differ a b) (differ a b) w (by unfold maxLen; omega) true (decide_eq_true rfl) hD hE)
    have hc : ((((differ a b).length : Int) == 0) == decide (a = b)) = true := by
      by_cases h : a = b
      · rw [decide_eq_true h, hnil.2 h]; rfl
      · rw [decide_eq_false h, beq_iff_eq, beq_eq_false_iff_ne]
        intro e
        exact h (hnil.1 (List.eq_nil_of_length_eq_zero (by omega)))
    have hr := fun (w : World) hA hB => Lib.hid (eqEnts A B c d a b w hma _ rfl hA hB)
    clear hnil hdl hla hlb e1 e2 e3 f1 f2 f3 ha hb hma hea hmb heb
    generalize differ a b = T at *
    generalize decide (a = b) = q at *
    go_enter Try.func5, Try.ntmps5
    go_wp2_with fail
    refine (hL _).out.mono ?_
    rintro e w1 ⟨rfl, hb1⟩
    go_wp2_with fail
    refine (h1 _ (hA.below hb1) (hA.below hb1)).out.mono ?_
    rintro e w2 ⟨D2, d2, rfl, hr2, hb2⟩
    have hb02 := below_chain hb1 hb2
    clear hL h1 hb1 hb2
    go_wp2_with fail
    refine (h2 _ (hA.below hb02) (hB.below hb02)).out.mono ?_
    rintro e w3 ⟨D3, d3, rfl, hr3, hb3⟩
    have hb03 := below_chain hb02 hb3
    clear h2 hb02 hb3 hr2
    go_wp2_with fail
    refine (h3 _ (hB.below hb03) (hA.below hb03)).out.mono ?_
    rintro e w4 ⟨D4, d4, rfl, hr4, hb4⟩
    have hb04 := below_chain hb03 hb4
    have hr34 := hr3.below hb4
    clear h3 hb03 hb4 hr3
    go_wp2_with fail
    refine (hq _ _ _ _ _ hr34 hr4).out.mono ?_
    rintro e w5 ⟨rfl, m5, hw5⟩
    have hb05 : Below w.heap.size w w5 := by rw [hw5]; exact below_drewN hb04 _
    clear hq hw5 hr34 hr4 hb04
    go_wp2_with fail
    refine (hr _ (hA.below hb05) (hB.below hb05)).out.mono ?_
    rintro e w6 ⟨rfl, m6, hw6⟩
    have hb06 : Below w.heap.size w w6 := by rw [hw6]; exact below_drewN hb05 _
    clear hr hw6 hb05 hA hB
    go_wp2
    go_ret
    exact ⟨rfl, hb06⟩
  · have f2 : diffRes a b = [] := by rw [diffRes, if_neg fun e => hg ((diffErr_ok a b).1 e)]
    have hne : (diffErr a a == 0) = false ∨ (diffErr a a == 0) = true ∧ (diffErr a b == 0) = false := by
      rcases Bool.eq_false_or_eq_true (diffErr a a == 0) with h | h
      · exact .inr ⟨h, beq_eq_false_iff_ne.2 fun e => hg ((diffErr_ok a b).1 e)⟩
      · exact .inl h
    rw [f2] at h2
    clear f2 hg hma hea hmb heb
    generalize diffRes a a = T1 at *
    generalize diffRes b a = T3 at *
    generalize diffErr a a = r1 at *
    generalize diffErr a b = r2 at *
    generalize diffErr b a = r3 at *
    go_enter Try.func5, Try.ntmps5
    go_wp2_with fail
    refine (hL _).out.mono ?_
    rintro e w1 ⟨rfl, hb1⟩
    go_wp2_with fail
    refine (h1 _ (hA.below hb1) (hA.below hb1)).out.mono ?_
    rintro e w2 ⟨D2, d2, rfl, hr2, hb2⟩
    have hb02 := below_chain hb1 hb2
    clear hL h1 hb1 hb2
    go_wp2_with fail
    refine (h2 _ (hA.below hb02) (hB.below hb02)).out.mono ?_
    rintro e w3 ⟨D3, d3, rfl, hr3, hb3⟩
    have hb03 := below_chain hb02 hb3
    clear h2 hb02 hb3 hr2
    go_wp2_with fail
    refine (h3 _ (hB.below hb03) (hA.below hb03)).out.mono ?_
    rintro e w4 ⟨D4, d4, rfl, hr4, hb4⟩
    have hb04 := below_chain hb03 hb4
    clear h3 hb03 hb4 hr3 hA hB hr4
    rcases hne with c1 | ⟨c1, c2⟩
    · have c1b : (r1 != 0) = true := by rw [bne, c1]; rfl
      go_wp2
      all_goals
        go_ret
        exact ⟨rfl, hb04⟩
    · have c1b : (r1 != 0) = false := by rw [bne, c1]; rfl
      have c2b : (r2 != 0) = true := by rw [bne, c2]; rfl
      go_wp2
      all_goals
        go_ret
        exact ⟨rfl, hb04⟩

set_option maxRecDepth 100000 in
theorem changeNone_lifted (os : Os) (started : os.Started) (H : Type) (enc : TypeId × Value → H) :
    ReturnsInHanded {} Try.checked os 5 .any (Rows.changeNoneSpec.pre6 enc Try.prog Try.f5 Rows.changeNoneRow.domain false) (Rows.changeNoneSpec.post enc Try.prog Try.f5 false true false false) := by
  refine returnsInHanded_of_change (C := Try.checked) own started (by kernel_rfl) Try.func5
    (ChangeSpec.witness6 (enc := enc) (C := Try.checked) false ⟨#[], #[.slice none 0 0, .slice none 0 0], []⟩ 8 (by kernel_rfl) (by kernel_rfl) (by kernel_rfl) (by kernel_rfl)) ?_
  intro W base args ds gs before hval0 hW hcnd _
  have hval : ∀ (j : Nat) t v, Try.f5.params[j]? = some t → args[j]? = some v → Value.okWide Try.prog W .any base t v := hval0
  have hW' := hW
  obtain ⟨p, q, hA0, hV, rfl, hfz, hnd⟩ := hW
  have hA : DataW.TrodAll enc Try.prog W 0 (fun _ => true) true Try.f5.params.toList args.toList ds p := hA0
  rw [Try.params5] at hA hval
  obtain ⟨v0, vs0, d0, ds0, p0, q0, hargs, rfl, rfl, h0, r0⟩ := trodAll_cons hA
  obtain ⟨v1, vs1, d1, ds1, p1, q1, rfl, rfl, rfl, h1, r1⟩ := trodAll_cons r0
  obtain ⟨rfl, rfl, rfl⟩ := trodAll_nil r1
  obtain rfl : args = #[v0, v1] := by cases args; simp_all
  obtain ⟨rfl, rfl⟩ := trodVars_none hV
  obtain ⟨A0, c0, s0, rfl, hm0, hr0, hs0, hc0, -⟩ := arg_ents (hval 0 22 v0 rfl rfl) h0
  obtain ⟨A1, c1, s1, rfl, hm1, hr1, hs1, hc1, -⟩ := arg_ents (hval 1 22 v1 rfl rfl) h1
  refine (changeNone_walk A0 A1 c0 c1 s0 s1 _ hm0 hs0 hm1 hs1 hr0 hr1).mono fun e W' ⟨he, hb⟩ => ?_
  subst he
  exact ⟨_, rfl, post_law laidOut (by decide +kernel) rfl Try.underlying4 (by kernel_rfl) hW' rfl hb⟩

/-- The statement. -/
theorem changeNone_said : Rows.ChangeNoneSaid :=
  OpenClaim.holds_of_wide 5 Try.f5 rfl rfl rfl rfl rfl rfl rfl ⟨rfl, rfl, rfl, rfl, rfl⟩ rfl rfl rfl rfl rfl (by kernel_rfl) Try.func5 (by kernel_rfl)
    (of_decide_eq_true (by kernel_rfl)) (by unfold Func.isWrapper; first | (rw [if_pos (by decide +kernel)]; kernel_rfl) | (rw [if_neg (by decide +kernel)]; exact ⟨rfl, rfl⟩))
    (fun os started H enc _ => changeNone_lifted os started H enc)
#print axioms changeNone_said
end Go.Proofs.Ytmmmolbejfdamaa
