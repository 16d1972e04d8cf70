/- The law HeadBack returns true: Read restores a valid head from its preimage, and a string from which Read returns a head is that head's preimage; else Read returns an empty head. Nothing that was there is written. No conditions. -/
import Derived.Test.YtmlgolnfegaihaaLaw
import Derived.Test.YtmlgolnfegaihaaHeadArgs
import Derived.Test.YtmlgolnfegaihaaHeadPlain
import Derived.Test.YtmlgolnfegaihaaHeadsLive
namespace Go.Proofs.Ytmlgolnfegaihaa
set_option maxRecDepth 100000
open Go.ChangeShapes Go.WideShapes Go.ChangeAt Go.RowKit

set_option maxHeartbeats 1000000 in
theorem headBack_00 (ep : Int) (rt pv : Nat) (tm : Int) (l : Bytes) (w : World) (r : Int) (hr : hfault (ep, rt, pv, tm) = r) (h0 : r ≠ 0) (hR : ¬ HRight l) :
    Calls Try.prog 4 #[.agg #[.int .i64 ep, .int .u64 (rt : Int), .int .u64 (pv : Int), .int .i64 tm], .string (S l)] w fun e w' => e = .returned (.bool true) ∧ Below w.heap.size w w' := by
  have hL := fun w => Lib.hid (heads w)
  have hh := Bx.new w _ rfl _ [.int .i64 ep, .int .u64 (rt : Int), .int .u64 (pv : Int), .int .i64 tm] 24 rfl
  have hbw : Below w.heap.size w (w.alloc (.cells #[.int .i64 ep, .int .u64 (rt : Int), .int .u64 (pv : Int), .int .i64 tm] 24)) := (Below.refl _ _).alloc (Nat.le_refl _) _
  have hS := fun w => Lib.hid (headSaid_no ep rt pv tm w r hr h0)
  have c1 : (r == 0) = false := beq_eq_false_iff_ne.2 h0
  have hR1 := fun w => Lib.hid (headRead_no l w hR)
  clear hR hr h0
  go_enter Try.func4, Try.ntmps4
  go_wp2_with fail
  refine (hL _).out.mono ?_
  rintro e w1 ⟨rfl, hb1⟩
  have hh1 := hh.below hb1
  have hbw1 := below_chain hbw hb1
  clear hh hbw hb1 hL
  obtain ⟨⟨z0, z1, z2, z3⟩, _⟩ := hh1.get4
  go_wp2_with fail
  clear z0 z1 z2 z3
  refine (hS _).out.mono ?_
  rintro e w2 ⟨rfl, hb2⟩
  have hh2 := hh1.below hb2
  have hbw2 := below_chain hbw1 hb2
  clear hh1 hbw1 hb2 hS
  go_wp2_with fail
  have hbw3 := hbw2
  clear hh2 hbw2
  refine (hR1 _).out.mono ?_
  rintro e w4 ⟨rfl, hb4⟩
  have hbw4' := below_chain hbw3 hb4
  have hbw4 := hbw4'.alloc hbw4'.size (.cells #[.int .i64 0, .int .u64 0, .int .u64 0, .int .i64 0] 24)
  clear hbw3 hb4 hbw4' hR1
  go_wp2
  go_ret
  exact ⟨rfl, hbw4⟩

set_option maxHeartbeats 1000000 in
theorem headBack_01 (ep : Int) (rt pv : Nat) (tm : Int) (l : Bytes) (w : World) (r : Int) (hr : hfault (ep, rt, pv, tm) = r) (h0 : r ≠ 0) (hR : HRight l) :
    Calls Try.prog 4 #[.agg #[.int .i64 ep, .int .u64 (rt : Int), .int .u64 (pv : Int), .int .i64 tm], .string (S l)] w fun e w' => e = .returned (.bool true) ∧ Below w.heap.size w w' := by
  have hL := fun w => Lib.hid (heads w)
  have hh := Bx.new w _ rfl _ [.int .i64 ep, .int .u64 (rt : Int), .int .u64 (pv : Int), .int .i64 tm] 24 rfl
  have hbw : Below w.heap.size w (w.alloc (.cells #[.int .i64 ep, .int .u64 (rt : Int), .int .u64 (pv : Int), .int .i64 tm] 24)) := (Below.refl _ _).alloc (Nat.le_refl _) _
  have hS := fun w => Lib.hid (headSaid_no ep rt pv tm w r hr h0)
  have c1 : (r == 0) = false := beq_eq_false_iff_ne.2 h0
  obtain ⟨⟨fp, st, qv, um⟩, hx⟩ : ∃ x, hnums l = x := ⟨_, rfl⟩
  have hR1 := fun w => Lib.hid (headRead_it l w hR fp st qv um hx)
  have hR2 := fun w => Lib.hid (headSaid_yes fp st qv um w ((hfault_ok _).1 (by rw [← hx]; exact hR.ok)) l (by rw [← hx]; exact hsaid_nums hR))
  clear hx
  clear hR hr h0
  go_enter Try.func4, Try.ntmps4
  go_wp2_with fail
  refine (hL _).out.mono ?_
  rintro e w1 ⟨rfl, hb1⟩
  have hh1 := hh.below hb1
  have hbw1 := below_chain hbw hb1
  clear hh hbw hb1 hL
  obtain ⟨⟨z0, z1, z2, z3⟩, _⟩ := hh1.get4
  go_wp2_with fail
  clear z0 z1 z2 z3
  refine (hS _).out.mono ?_
  rintro e w2 ⟨rfl, hb2⟩
  have hh2 := hh1.below hb2
  have hbw2 := below_chain hbw1 hb2
  clear hh1 hbw1 hb2 hS
  go_wp2_with fail
  have hbw3 := hbw2
  clear hh2 hbw2
  refine (hR1 _).out.mono ?_
  rintro e w4 ⟨rfl, hb4⟩
  have hbw4' := below_chain hbw3 hb4
  have hbw4 := hbw4'.alloc hbw4'.size (.cells #[.int .i64 fp, .int .u64 (st : Int), .int .u64 (qv : Int), .int .i64 um] 24)
  clear hbw3 hb4 hbw4' hR1
  go_wp2_with fail
  refine (hR2 _).out.mono ?_
  rintro e w5 ⟨rfl, hb5⟩
  have hbw5 := below_chain hbw4 hb5
  clear hb5 hR2
  go_wp2
  go_ret
  exact ⟨rfl, hbw5⟩

set_option maxHeartbeats 1000000 in
theorem headBack_10 (ep : Int) (rt pv : Nat) (tm : Int) (l : Bytes) (w : World) (hg : HGood (ep, rt, pv, tm)) (hR : ¬ HRight l) :
    Calls Try.prog 4 #[.agg #[.int .i64 ep, .int .u64 (rt : Int), .int .u64 (pv : Int), .int .i64 tm], .string (S l)] w fun e w' => e = .returned (.bool true) ∧ Below w.heap.size w w' := by
  have hL := fun w => Lib.hid (heads w)
  have hh := Bx.new w _ rfl _ [.int .i64 ep, .int .u64 (rt : Int), .int .u64 (pv : Int), .int .i64 tm] 24 rfl
  have hbw : Below w.heap.size w (w.alloc (.cells #[.int .i64 ep, .int .u64 (rt : Int), .int .u64 (pv : Int), .int .i64 tm] 24)) := (Below.refl _ _).alloc (Nat.le_refl _) _
  have hS := fun w => Lib.hid (headSaid_yes ep rt pv tm w hg _ rfl)
  have hQ := fun w => Lib.hid (headRead_it (hsaid (ep, rt, pv, tm)) w (hright_said hg).1 ep rt pv tm (hright_said hg).2)
  generalize hsaid (ep, rt, pv, tm) = s at *
  have hR1 := fun w => Lib.hid (headRead_no l w hR)
  clear hR hg
  go_enter Try.func4, Try.ntmps4
  go_wp2_with fail
  refine (hL _).out.mono ?_
  rintro e w1 ⟨rfl, hb1⟩
  have hh1 := hh.below hb1
  have hbw1 := below_chain hbw hb1
  clear hh hbw hb1 hL
  obtain ⟨⟨z0, z1, z2, z3⟩, _⟩ := hh1.get4
  go_wp2_with fail
  clear z0 z1 z2 z3
  refine (hS _).out.mono ?_
  rintro e w2 ⟨rfl, hb2⟩
  have hh2 := hh1.below hb2
  have hbw2 := below_chain hbw1 hb2
  clear hh1 hbw1 hb2 hS
  go_wp2_with fail
  refine (hQ _).out.mono ?_
  rintro e w3 ⟨rfl, hb3⟩
  have hh3 := (hh2.below hb3).alloc (.cells #[.int .i64 ep, .int .u64 (rt : Int), .int .u64 (pv : Int), .int .i64 tm] 24)
  have hbw3' := below_chain hbw2 hb3
  have hbw3 := hbw3'.alloc hbw3'.size (.cells #[.int .i64 ep, .int .u64 (rt : Int), .int .u64 (pv : Int), .int .i64 tm] 24)
  clear hh2 hbw2 hb3 hbw3' hQ
  obtain ⟨⟨z0, z1, z2, z3⟩, _⟩ := hh3.get4
  go_wp2_with fail
  clear z0 z1 z2 z3 hh3
  generalize w3.alloc (.cells #[.int .i64 ep, .int .u64 (rt : Int), .int .u64 (pv : Int), .int .i64 tm] 24) = v3 at *
  refine (hR1 _).out.mono ?_
  rintro e w4 ⟨rfl, hb4⟩
  have hbw4' := below_chain hbw3 hb4
  have hbw4 := hbw4'.alloc hbw4'.size (.cells #[.int .i64 0, .int .u64 0, .int .u64 0, .int .i64 0] 24)
  clear hbw3 hb4 hbw4' hR1
  go_wp2
  go_ret
  exact ⟨rfl, hbw4⟩

set_option maxHeartbeats 1000000 in
theorem headBack_11 (ep : Int) (rt pv : Nat) (tm : Int) (l : Bytes) (w : World) (hg : HGood (ep, rt, pv, tm)) (hR : HRight l) :
    Calls Try.prog 4 #[.agg #[.int .i64 ep, .int .u64 (rt : Int), .int .u64 (pv : Int), .int .i64 tm], .string (S l)] w fun e w' => e = .returned (.bool true) ∧ Below w.heap.size w w' := by
  have hL := fun w => Lib.hid (heads w)
  have hh := Bx.new w _ rfl _ [.int .i64 ep, .int .u64 (rt : Int), .int .u64 (pv : Int), .int .i64 tm] 24 rfl
  have hbw : Below w.heap.size w (w.alloc (.cells #[.int .i64 ep, .int .u64 (rt : Int), .int .u64 (pv : Int), .int .i64 tm] 24)) := (Below.refl _ _).alloc (Nat.le_refl _) _
  have hS := fun w => Lib.hid (headSaid_yes ep rt pv tm w hg _ rfl)
  have hQ := fun w => Lib.hid (headRead_it (hsaid (ep, rt, pv, tm)) w (hright_said hg).1 ep rt pv tm (hright_said hg).2)
  generalize hsaid (ep, rt, pv, tm) = s at *
  obtain ⟨⟨fp, st, qv, um⟩, hx⟩ : ∃ x, hnums l = x := ⟨_, rfl⟩
  have hR1 := fun w => Lib.hid (headRead_it l w hR fp st qv um hx)
  have hR2 := fun w => Lib.hid (headSaid_yes fp st qv um w ((hfault_ok _).1 (by rw [← hx]; exact hR.ok)) l (by rw [← hx]; exact hsaid_nums hR))
  clear hx
  clear hR hg
  go_enter Try.func4, Try.ntmps4
  go_wp2_with fail
  refine (hL _).out.mono ?_
  rintro e w1 ⟨rfl, hb1⟩
  have hh1 := hh.below hb1
  have hbw1 := below_chain hbw hb1
  clear hh hbw hb1 hL
  obtain ⟨⟨z0, z1, z2, z3⟩, _⟩ := hh1.get4
  go_wp2_with fail
  clear z0 z1 z2 z3
  refine (hS _).out.mono ?_
  rintro e w2 ⟨rfl, hb2⟩
  have hh2 := hh1.below hb2
  have hbw2 := below_chain hbw1 hb2
  clear hh1 hbw1 hb2 hS
  go_wp2_with fail
  refine (hQ _).out.mono ?_
  rintro e w3 ⟨rfl, hb3⟩
  have hh3 := (hh2.below hb3).alloc (.cells #[.int .i64 ep, .int .u64 (rt : Int), .int .u64 (pv : Int), .int .i64 tm] 24)
  have hbw3' := below_chain hbw2 hb3
  have hbw3 := hbw3'.alloc hbw3'.size (.cells #[.int .i64 ep, .int .u64 (rt : Int), .int .u64 (pv : Int), .int .i64 tm] 24)
  clear hh2 hbw2 hb3 hbw3' hQ
  obtain ⟨⟨z0, z1, z2, z3⟩, _⟩ := hh3.get4
  go_wp2_with fail
  clear z0 z1 z2 z3 hh3
  generalize w3.alloc (.cells #[.int .i64 ep, .int .u64 (rt : Int), .int .u64 (pv : Int), .int .i64 tm] 24) = v3 at *
  refine (hR1 _).out.mono ?_
  rintro e w4 ⟨rfl, hb4⟩
  have hbw4' := below_chain hbw3 hb4
  have hbw4 := hbw4'.alloc hbw4'.size (.cells #[.int .i64 fp, .int .u64 (st : Int), .int .u64 (qv : Int), .int .i64 um] 24)
  clear hbw3 hb4 hbw4' hR1
  go_wp2_with fail
  refine (hR2 _).out.mono ?_
  rintro e w5 ⟨rfl, hb5⟩
  have hbw5 := below_chain hbw4 hb5
  clear hb5 hR2
  go_wp2
  go_ret
  exact ⟨rfl, hbw5⟩

theorem headBack_walk (ep : Int) (rt pv : Nat) (tm : Int) (l : Bytes) (w : World) :
    Calls Try.prog 4 #[.agg #[.int .i64 ep, .int .u64 (rt : Int), .int .u64 (pv : Int), .int .i64 tm], .string (S l)] w fun e w' => e = .returned (.bool true) ∧ Below w.heap.size w w' := by
  by_cases h : hfault (ep, rt, pv, tm) = 0
  · by_cases hR : HRight l
    · exact headBack_11 ep rt pv tm l w ((hfault_ok _).1 h) hR
    · exact headBack_10 ep rt pv tm l w ((hfault_ok _).1 h) hR
  · by_cases hR : HRight l
    · exact headBack_01 ep rt pv tm l w _ rfl h hR
    · exact headBack_00 ep rt pv tm l w _ rfl h hR

set_option maxRecDepth 100000 in
theorem headBack_lifted (os : Os) (started : os.Started) (H : Type) (enc : TypeId × Value → H) :
    ReturnsInHanded {} Try.checked os 4 .any (Rows.headBackSpec.pre6 enc Try.prog Try.f4 Rows.headBackRow.domain false) (Rows.headBackSpec.post enc Try.prog Try.f4 false true false false) := by
  refine returnsInHanded_of_change (C := Try.checked) own started (by kernel_rfl) Try.func4
    (ChangeSpec.witness6 (enc := enc) (C := Try.checked) false ⟨#[], #[.agg #[.int .i64 0, .int .u64 0, .int .u64 0, .int .i64 0], .string ⟨#[]⟩], []⟩ 8 (by kernel_rfl) (by kernel_rfl) (by kernel_rfl) (by kernel_rfl)) ?_
  intro W base args ds gs before hval0 hW hcnd _
  have hval : ∀ (j : Nat) t v, Try.f4.params[j]? = some t → args[j]? = some v → Value.okWide Try.prog W .any base t v := hval0
  have hW' := hW
  obtain ⟨p, q, hA0, hV, rfl, hfz, hnd⟩ := hW
  have hA : DataW.TrodAll enc Try.prog W 0 (fun _ => true) true Try.f4.params.toList args.toList ds p := hA0
  rw [Try.params4] at hA hval
  obtain ⟨v0, vs0, d0, ds0, p0, q0, hargs, rfl, rfl, h0, r0⟩ := trodAll_cons hA
  obtain ⟨v1, vs1, d1, ds1, p1, q1, rfl, rfl, rfl, h1, r1⟩ := trodAll_cons r0
  obtain ⟨rfl, rfl, rfl⟩ := trodAll_nil r1
  obtain rfl : args = #[v0, v1] := by cases args; simp_all
  obtain ⟨rfl, rfl⟩ := trodVars_none hV
  obtain ⟨ep0, rt0, pv0, tm0, rfl, hep0, hrt0, hpv0, htm0⟩ := arg_head (hval 0 24 v0 rfl rfl) h0
  obtain ⟨l1, rfl, hl1⟩ := arg_str (hval 1 9 v1 rfl rfl) h1
  refine (headBack_walk ep0 rt0 pv0 tm0 l1 W).mono fun e W' ⟨he, hb⟩ => ?_
  subst he
  exact ⟨_, rfl, post_law laidOut (by decide +kernel) rfl Try.underlying4 (by kernel_rfl) hW' rfl hb⟩

/-- The statement. -/
theorem headBack_said : Rows.HeadBackSaid :=
  OpenClaim.holds_of_wide 4 Try.f4 rfl rfl rfl rfl rfl rfl rfl ⟨rfl, rfl, rfl, rfl, rfl⟩ rfl rfl rfl rfl rfl (by kernel_rfl) Try.func4 (by kernel_rfl)
    (of_decide_eq_true (by kernel_rfl)) (by unfold Func.isWrapper; first | (rw [if_pos (by decide +kernel)]; kernel_rfl) | (rw [if_neg (by decide +kernel)]; exact ⟨rfl, rfl⟩))
    (fun os started H enc _ => headBack_lifted os started H enc)
#print axioms headBack_said
end Go.Proofs.Ytmlgolnfegaihaa
