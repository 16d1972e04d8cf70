/- The law TagHolds returns true: a request that Ask makes with a key is held by it and has the name, the value and the number; where Ask returns an error the request is empty. Nothing that was there is written. No conditions. -/
import Derived.Test.YtgmanaciadfkdaaLaw
import Derived.Test.YtgmanaciadfkdaaTag
namespace Go.Proofs.Ytgmanaciadfkdaa
set_option maxRecDepth 100000
open Go.ChangeShapes Go.WideShapes Go.ChangeAt Go.RowKit

theorem hash_live : askTag 1 [97] [98] 2 < 18446744073709551616 := by decide +kernel
theorem ask_live (x : Nat) (hx : askTag 1 [97] [98] 2 = x) (w : World) : Calls Try.prog 6 #[.int .u64 1, .string ⟨#[97]⟩, .string ⟨#[98]⟩, .int .u64 2] w fun e w' => e = .returned (.tuple #[.agg #[.string ⟨#[97]⟩, .string ⟨#[98]⟩, .int .u64 2, .int .u64 (x : Int)], .int .i64 0]) ∧ Below w.heap.size w w' :=
  tagAsk_yes 1 [97] [98] 2 w (by omega) (by omega) (by decide) x hx
theorem holds_live (x : Nat) (hx : askTag 1 [97] [98] 2 = x) (w : World) : Calls Try.prog 10 #[.int .u64 1, .agg #[.string ⟨#[97]⟩, .string ⟨#[98]⟩, .int .u64 2, .int .u64 (x : Int)]] w fun e w' => e = .returned (.bool true) ∧ Below w.heap.size w w' :=
  tagHolds 1 [97] [98] 2 x w (by omega) (by unfold maxLen; simp) (by unfold maxLen; simp) (by omega) true (by rw [holdsB, hx]; simp; decide)

set_option maxHeartbeats 400000 in
theorem tags (w : World) : Calls Try.prog 13 #[] w fun e w' => e = .returned (.bool true) ∧ Below w.heap.size w w' := by
  obtain ⟨x, hx⟩ : ∃ x, askTag 1 [97] [98] 2 = x := ⟨_, rfl⟩
  have hA := fun w => Lib.hid (ask_live x hx w)
  have hH := fun w => Lib.hid (holds_live x hx w)
  clear hx
  go_enter Try.func13, Try.ntmps13
  go_wp2_with fail
  refine (hA _).out.mono ?_
  rintro e w1 ⟨rfl, hb1⟩
  have hb01 := hb1.alloc hb1.size (.cells #[.string ⟨#[97]⟩, .string ⟨#[98]⟩, .int .u64 2, .int .u64 (x : Int)] 24)
  go_wp2_with fail
  refine (hH _).out.mono ?_
  rintro e w2 ⟨rfl, hb2⟩
  go_wp2
  go_ret
  exact ⟨rfl, below_chain hb01 hb2⟩

set_option maxHeartbeats 1000000 in
theorem tagHolds_walk (key : Nat) (n v : Bytes) (num : Nat) (w : World) (hk : key < 18446744073709551616) (hn : n.length ≤ maxLen) (hv : v.length ≤ maxLen) (hnum : num < 18446744073709551616) :
    Calls Try.prog 4 #[.int .u64 (key : Int), .string (S n), .string (S v), .int .u64 (num : Int)] w fun e w' => e = .returned (.bool true) ∧ Below w.heap.size w w' := by
  have hL := fun w => Lib.hid (tags w)
  by_cases h : askFault n v = 0
  · obtain ⟨x, hx⟩ : ∃ x, askTag key n v num = x := ⟨_, rfl⟩
    have hA := fun w => Lib.hid (tagAsk_yes key n v num w hk hnum h x hx)
    have hH := fun w => Lib.hid (tagHolds key n v num x w hk hn hv hnum true (by rw [holdsB, hx, decide_eq_true h]; simp))
    clear hx h hk hn hv hnum
    go_enter Try.func4, Try.ntmps4
    go_wp2_with fail
    refine (hL _).out.mono ?_
    rintro e w1 ⟨rfl, hb1⟩
    go_wp2_with fail
    refine (hA _).out.mono ?_
    rintro e w2 ⟨rfl, hb2⟩
    have hb02 := below_chain hb1 hb2
    have hb03 := hb02.alloc hb02.size (.cells #[.string (S n), .string (S v), .int .u64 (num : Int), .int .u64 (x : Int)] 24)
    have hz := Bx.new w2 _ rfl _ [.string (S n), .string (S v), .int .u64 (num : Int), .int .u64 (x : Int)] 24 rfl
    go_wp2_with fail
    refine (hH _).out.mono ?_
    rintro e w3 ⟨rfl, hb3⟩
    obtain ⟨⟨z0, z1, z2, z3⟩, _⟩ := (hz.below hb3).get4
    clear hz
    go_wp2
    go_ret
    exact ⟨rfl, below_chain hb03 hb3⟩
  · have hA := fun w => Lib.hid (tagAsk_no key n v num w hn hv _ rfl h)
    have c1 : (askFault n v == 0) = false := beq_eq_false_iff_ne.2 h
    generalize askFault n v = r at *
    clear h hk hn hv hnum
    go_enter Try.func4, Try.ntmps4
    go_wp2_with fail
    refine (hL _).out.mono ?_
    rintro e w1 ⟨rfl, hb1⟩
    go_wp2_with fail
    refine (hA _).out.mono ?_
    rintro e w2 ⟨rfl, hb2⟩
    have hb02 := below_chain hb1 hb2
    have hb03 := hb02.alloc hb02.size (.cells #[.string ⟨#[]⟩, .string ⟨#[]⟩, .int .u64 0, .int .u64 0] 24)
    go_wp2
    go_ret
    exact ⟨rfl, hb03⟩

set_option maxRecDepth 100000 in
theorem tagHolds_lifted (os : Os) (started : os.Started) (H : Type) (enc : TypeId × Value → H) :
    ReturnsInHanded {} Try.checked os 4 .any (Rows.tagHoldsSpec.pre6 enc Try.prog Try.f4 Rows.tagHoldsRow.domain false) (Rows.tagHoldsSpec.post enc Try.prog Try.f4 false true false false) := by
  refine returnsInHanded_of_change (C := Try.checked) own started (by kernel_rfl) Try.func4
    (ChangeSpec.witness6 (enc := enc) (C := Try.checked) false ⟨#[], #[.int .u64 0, .string ⟨#[]⟩, .string ⟨#[]⟩, .int .u64 0], []⟩ 8 (by kernel_rfl) (by kernel_rfl) (by kernel_rfl) (by kernel_rfl)) ?_
  intro W base args ds gs before hval0 hW hcnd _
  have hval : ∀ (j : Nat) t v, Try.f4.params[j]? = some t → args[j]? = some v → Value.okWide Try.prog W .any base t v := hval0
  have hW' := hW
  obtain ⟨p, q, hA0, hV, rfl, hfz, hnd⟩ := hW
  have hA : DataW.TrodAll enc Try.prog W 0 (fun _ => true) true Try.f4.params.toList args.toList ds p := hA0
  rw [Try.params4] at hA hval
  obtain ⟨v0, vs0, d0, ds0, p0, q0, hargs, rfl, rfl, h0, r0⟩ := trodAll_cons hA
  obtain ⟨v1, vs1, d1, ds1, p1, q1, rfl, rfl, rfl, h1, r1⟩ := trodAll_cons r0
  obtain ⟨v2, vs2, d2, ds2, p2, q2, rfl, rfl, rfl, h2, r2⟩ := trodAll_cons r1
  obtain ⟨v3, vs3, d3, ds3, p3, q3, rfl, rfl, rfl, h3, r3⟩ := trodAll_cons r2
  obtain ⟨rfl, rfl, rfl⟩ := trodAll_nil r3
  obtain rfl : args = #[v0, v1, v2, v3] := by cases args; simp_all
  obtain ⟨rfl, rfl⟩ := trodVars_none hV
  obtain ⟨n0, rfl, hn0⟩ := arg_u64 (hval 0 22 v0 rfl rfl) h0
  obtain ⟨l1, rfl, hl1⟩ := arg_str (hval 1 9 v1 rfl rfl) h1
  obtain ⟨l2, rfl, hl2⟩ := arg_str (hval 2 9 v2 rfl rfl) h2
  obtain ⟨n3, rfl, hn3⟩ := arg_u64 (hval 3 22 v3 rfl rfl) h3
  refine (tagHolds_walk n0 l1 l2 n3 W hn0 hl1 hl2 hn3).mono fun e W' ⟨he, hb⟩ => ?_
  subst he
  exact ⟨_, rfl, post_law laidOut (by decide +kernel) rfl Try.underlying4 (by kernel_rfl) hW' rfl hb⟩

/-- The statement. -/
theorem tagHolds_said : Rows.TagHoldsSaid :=
  OpenClaim.holds_of_wide 4 Try.f4 rfl rfl rfl rfl rfl rfl rfl ⟨rfl, rfl, rfl, rfl, rfl⟩ rfl rfl rfl rfl rfl (by kernel_rfl) Try.func4 (by kernel_rfl)
    (of_decide_eq_true (by kernel_rfl)) (by unfold Func.isWrapper; first | (rw [if_pos (by decide +kernel)]; kernel_rfl) | (rw [if_neg (by decide +kernel)]; exact ⟨rfl, rfl⟩))
    (fun os started H enc _ => tagHolds_lifted os started H enc)
#print axioms tagHolds_said
end Go.Proofs.Ytgmanaciadfkdaa
