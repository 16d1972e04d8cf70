/- QueueWaits: the waiting time does not decrease with more requests ahead, does not increase with larger batches, and is at least one interval. No conditions: true for all arguments. -/
import Derived.Test.YtknhohlpjhkmfaaQueueLive
import Derived.Test.YtknhohlpjhkmfaaGood
import Derived.Test.YtknhohlpjhkmfaaLaw
namespace Go.Proofs.Ytknhohlpjhkmfaa
set_option maxRecDepth 100000
open Go.ChangeShapes Go.WideShapes Go.ChangeAt Go.RowKit

/-- What Wait returns. -/
def waitAns (a b k : Int) : Int × Int := if WaitOk a b k then (((a.toNat / b.toNat + 1) * k.toNat : Nat), 0) else (0, 4)
theorem queueWait (a b k : Int) (w : World) (v r : Int) (h : waitAns a b k = (v, r)) :
    Calls Try.prog 8 #[.int .i64 a, .int .i64 b, .int .i64 k] w fun e w' => e = .returned (.tuple #[.int .i64 v, .int .i64 r]) ∧ w = w' := by
  unfold waitAns at h
  by_cases k0 : WaitOk a b k
  · rw [if_pos k0, Prod.mk.injEq] at h
    obtain ⟨rfl, rfl⟩ := h
    obtain ⟨⟨a0, a1⟩, ⟨b0, b1⟩, k1, k2⟩ := k0
    have := queueWait_ok a.toNat b.toNat k.toNat w (by omega) (by omega) (by omega) (by omega) (by omega) _ rfl
    rw [Int.toNat_of_nonneg a0, Int.toNat_of_nonneg (by omega : 0 ≤ b), Int.toNat_of_nonneg (by omega : 0 ≤ k)] at this
    exact this
  · rw [if_neg k0, Prod.mk.injEq] at h
    obtain ⟨rfl, rfl⟩ := h
    exact queueWait_no a b k w k0
theorem waitAns_err {a b k v r : Int} (h : waitAns a b k = (v, r)) : r = 0 ∧ WaitOk a b k ∧ v = ((a.toNat / b.toNat + 1) * k.toNat : Nat) ∨ r = 4 ∧ v = 0 := by
  unfold waitAns at h
  split at h
  · rename_i k0
    rw [Prod.mk.injEq] at h
    exact .inl ⟨h.2.symm, k0, h.1.symm⟩
  · rw [Prod.mk.injEq] at h
    exact .inr ⟨h.2.symm, h.1.symm⟩

set_option maxHeartbeats 2000000 in
theorem queueWaits_walk (x0 x1 x2 x3 x4 : Int) (w : World) :
    Calls Try.prog 5 #[.int .i64 x0, .int .i64 x1, .int .i64 x2, .int .i64 x3, .int .i64 x4] w fun e w' => e = .returned (.bool true) ∧ Below w.heap.size w w' := by
  have hJ := fun w => Lib.hid (queues w)
  obtain ⟨⟨a, r⟩, ha⟩ : ∃ x, waitAns x0 x2 x4 = x := ⟨_, rfl⟩
  obtain ⟨⟨b, s⟩, hb⟩ : ∃ x, waitAns x1 x2 x4 = x := ⟨_, rfl⟩
  obtain ⟨⟨c, t⟩, hc⟩ : ∃ x, waitAns x0 x3 x4 = x := ⟨_, rfl⟩
  have h1 := fun w => Lib.hid (queueWait x0 x2 x4 w a r ha)
  have h2 := fun w => Lib.hid (queueWait x1 x2 x4 w b s hb)
  have h3 := fun w => Lib.hid (queueWait x0 x3 x4 w c t hc)
  have hG := fun w g hg => Lib.hid (goods3 r s t w g 28 hg _ rfl)
  have ea := waitAns_err ha
  have eb := waitAns_err hb
  have ec := waitAns_err hc
  clear ha hb hc
  cases hg : (r == 0 && (s == 0 && t == 0)) with
  | false =>
    rw [hg] at hG
    rcases ea with ⟨rfl, -, -⟩ | ⟨rfl, rfl⟩
    · clear eb ec hg
      go_enter Try.func5, Try.ntmps5
      go_wp2_with fail
      refine (hJ _).out.mono ?_
      rintro e w1 ⟨rfl, hb1⟩
      go_wp2_with fail
      refine (h1 _).out.mono ?_
      rintro e w2 ⟨rfl, hw⟩
      subst hw
      go_wp2_with fail
      refine (h2 _).out.mono ?_
      rintro e w2 ⟨rfl, hw⟩
      subst hw
      go_wp2_with fail
      refine (h3 _).out.mono ?_
      rintro e w2 ⟨rfl, hw⟩
      subst hw
      clear h1 h2 h3
      go_wp2_with fail
      refine (hG _ _ rfl).out.mono ?_
      rintro e w2 ⟨rfl, hw⟩
      subst hw
      go_wp2
      go_ret
      exact ⟨rfl, hb1.alloc hb1.size _⟩
    · clear eb ec hg
      go_enter Try.func5, Try.ntmps5
      go_wp2_with fail
      refine (hJ _).out.mono ?_
      rintro e w1 ⟨rfl, hb1⟩
      go_wp2_with fail
      refine (h1 _).out.mono ?_
      rintro e w2 ⟨rfl, hw⟩
      subst hw
      go_wp2_with fail
      refine (h2 _).out.mono ?_
      rintro e w2 ⟨rfl, hw⟩
      subst hw
      go_wp2_with fail
      refine (h3 _).out.mono ?_
      rintro e w2 ⟨rfl, hw⟩
      subst hw
      clear h1 h2 h3
      go_wp2_with fail
      refine (hG _ _ rfl).out.mono ?_
      rintro e w2 ⟨rfl, hw⟩
      subst hw
      go_wp2
      go_ret
      exact ⟨rfl, hb1.alloc hb1.size _⟩
  | true =>
    rw [hg] at hG
    simp only [Bool.and_eq_true, beq_iff_eq] at hg
    obtain ⟨rfl, rfl, rfl⟩ := hg
    obtain ⟨-, ka, va⟩ : _ ∧ _ ∧ _ := by rcases ea with h | h; exact h; exact absurd h.1 (by decide)
    obtain ⟨-, kb, vb⟩ : _ ∧ _ ∧ _ := by rcases eb with h | h; exact h; exact absurd h.1 (by decide)
    obtain ⟨-, kc, vc⟩ : _ ∧ _ ∧ _ := by rcases ec with h | h; exact h; exact absurd h.1 (by decide)
    clear ea eb ec
    by_cases q1 : x1 < x0
    · have c1 : decide (x1 < x0) = true := decide_eq_true q1
      clear ka va kb vb kc vc q1
      go_enter Try.func5, Try.ntmps5
      go_wp2_with fail
      refine (hJ _).out.mono ?_
      rintro e w1 ⟨rfl, hb1⟩
      go_wp2_with fail
      refine (h1 _).out.mono ?_
      rintro e w2 ⟨rfl, hw⟩
      subst hw
      go_wp2_with fail
      refine (h2 _).out.mono ?_
      rintro e w2 ⟨rfl, hw⟩
      subst hw
      go_wp2_with fail
      refine (h3 _).out.mono ?_
      rintro e w2 ⟨rfl, hw⟩
      subst hw
      clear h1 h2 h3
      go_wp2_with fail
      refine (hG _ _ rfl).out.mono ?_
      rintro e w2 ⟨rfl, hw⟩
      subst hw
      go_wp2
      go_ret
      exact ⟨rfl, hb1.alloc hb1.size _⟩
    have c1 : decide (x1 < x0) = false := decide_eq_false q1
    by_cases q2 : x3 < x2
    · have c2 : decide (x3 < x2) = true := decide_eq_true q2
      clear ka va kb vb kc vc q1 q2
      go_enter Try.func5, Try.ntmps5
      go_wp2_with fail
      refine (hJ _).out.mono ?_
      rintro e w1 ⟨rfl, hb1⟩
      go_wp2_with fail
      refine (h1 _).out.mono ?_
      rintro e w2 ⟨rfl, hw⟩
      subst hw
      go_wp2_with fail
      refine (h2 _).out.mono ?_
      rintro e w2 ⟨rfl, hw⟩
      subst hw
      go_wp2_with fail
      refine (h3 _).out.mono ?_
      rintro e w2 ⟨rfl, hw⟩
      subst hw
      clear h1 h2 h3
      go_wp2_with fail
      refine (hG _ _ rfl).out.mono ?_
      rintro e w2 ⟨rfl, hw⟩
      subst hw
      go_wp2
      go_ret
      exact ⟨rfl, hb1.alloc hb1.size _⟩
    have c2 : decide (x3 < x2) = false := decide_eq_false q2
    unfold WaitOk at ka kb kc
    have e1 : x4 ≤ a := by
      rw [va]
      have : x4.toNat ≤ (x0.toNat / x2.toNat + 1) * x4.toNat := Nat.le_mul_of_pos_left _ (Nat.succ_pos _)
      omega
    have e2 : a ≤ b := by
      rw [va, vb]
      have : (x0.toNat / x2.toNat + 1) * x4.toNat ≤ (x1.toNat / x2.toNat + 1) * x4.toNat := Nat.mul_le_mul_right _ (Nat.succ_le_succ (Nat.div_le_div_right (by omega)))
      omega
    have e3 : c ≤ a := by
      rw [va, vc]
      have : (x0.toNat / x3.toNat + 1) * x4.toNat ≤ (x0.toNat / x2.toNat + 1) * x4.toNat := Nat.mul_le_mul_right _ (Nat.succ_le_succ (Nat.div_le_div_left (by omega) (by omega)))
      omega
    have d1 : decide (x4 ≤ a) = true := decide_eq_true e1
    have d2 : decide (a ≤ b) = true := decide_eq_true e2
    have d3 : decide (c ≤ a) = true := decide_eq_true e3
    clear ka va kb vb kc vc q1 q2 e1 e2 e3
    go_enter Try.func5, Try.ntmps5
    go_wp2_with fail
    refine (hJ _).out.mono ?_
    rintro e w1 ⟨rfl, hb1⟩
    go_wp2_with fail
    refine (h1 _).out.mono ?_
    rintro e w2 ⟨rfl, hw⟩
    subst hw
    go_wp2_with fail
    refine (h2 _).out.mono ?_
    rintro e w2 ⟨rfl, hw⟩
    subst hw
    go_wp2_with fail
    refine (h3 _).out.mono ?_
    rintro e w2 ⟨rfl, hw⟩
    subst hw
    clear h1 h2 h3
    go_wp2_with fail
    refine (hG _ _ rfl).out.mono ?_
    rintro e w2 ⟨rfl, hw⟩
    subst hw
    go_wp2
    go_ret
    exact ⟨rfl, hb1.alloc hb1.size _⟩
set_option maxRecDepth 100000 in
theorem queueWaits_lifted (os : Os) (started : os.Started) (H : Type) (enc : TypeId × Value → H) :
    ReturnsInHanded {} Try.checked os 5 .any (Rows.queueWaitsSpec.pre6 enc Try.prog Try.f5 Rows.queueWaitsRow.domain false) (Rows.queueWaitsSpec.post enc Try.prog Try.f5 false true false false) := by
  refine returnsInHanded_of_change (C := Try.checked) own started (by kernel_rfl) Try.func5
    (ChangeSpec.witness6 (enc := enc) (C := Try.checked) false ⟨#[], #[.int .i64 0, .int .i64 0, .int .i64 0, .int .i64 0, .int .i64 0], []⟩ 8 (by kernel_rfl) (by kernel_rfl) (by kernel_rfl) (by kernel_rfl)) ?_
  intro W base args ds gs before hval0 hW hcnd _
  have hval : ∀ (j : Nat) t v, Try.f5.params[j]? = some t → args[j]? = some v → Value.okWide Try.prog W .any base t v := hval0
  have hW' := hW
  obtain ⟨p, q, hA0, hV, rfl, hfz, hnd⟩ := hW
  have hA : DataW.TrodAll enc Try.prog W 0 (fun _ => true) true Try.f5.params.toList args.toList ds p := hA0
  rw [Try.params5] at hA hval
  obtain ⟨v0, vs0, d0, ds0, p0, q0, hargs, rfl, rfl, h0, r0⟩ := trodAll_cons hA
  obtain ⟨v1, vs1, d1, ds1, p1, q1, rfl, rfl, rfl, h1, r1⟩ := trodAll_cons r0
  obtain ⟨v2, vs2, d2, ds2, p2, q2, rfl, rfl, rfl, h2, r2⟩ := trodAll_cons r1
  obtain ⟨v3, vs3, d3, ds3, p3, q3, rfl, rfl, rfl, h3, r3⟩ := trodAll_cons r2
  obtain ⟨v4, vs4, d4, ds4, p4, q4, rfl, rfl, rfl, h4, r4⟩ := trodAll_cons r3
  obtain ⟨rfl, rfl, rfl⟩ := trodAll_nil r4
  obtain rfl : args = #[v0, v1, v2, v3, v4] := by cases args; simp_all
  obtain ⟨rfl, rfl⟩ := trodVars_none hV
  obtain ⟨x0, rfl, hx0, hy0⟩ := arg_i64 (hval 0 3 v0 rfl rfl) h0
  obtain ⟨x1, rfl, hx1, hy1⟩ := arg_i64 (hval 1 3 v1 rfl rfl) h1
  obtain ⟨x2, rfl, hx2, hy2⟩ := arg_i64 (hval 2 3 v2 rfl rfl) h2
  obtain ⟨x3, rfl, hx3, hy3⟩ := arg_i64 (hval 3 3 v3 rfl rfl) h3
  obtain ⟨x4, rfl, hx4, hy4⟩ := arg_i64 (hval 4 3 v4 rfl rfl) h4
  refine (queueWaits_walk x0 x1 x2 x3 x4 W).mono fun e W' ⟨he, hb⟩ => ?_
  subst he
  exact ⟨_, rfl, post_law laidOut (by decide +kernel) rfl Try.underlying4 (by kernel_rfl) hW' rfl hb⟩

/-- The statement. -/
theorem queueWaits_said : Rows.QueueWaitsSaid :=
  OpenClaim.holds_of_wide 5 Try.f5 rfl rfl rfl rfl rfl rfl rfl ⟨rfl, rfl, rfl, rfl, rfl⟩ rfl rfl rfl rfl rfl (by kernel_rfl) Try.func5 (by kernel_rfl)
    (of_decide_eq_true (by kernel_rfl)) (by unfold Func.isWrapper; first | (rw [if_pos (by decide +kernel)]; kernel_rfl) | (rw [if_neg (by decide +kernel)]; exact ⟨rfl, rfl⟩))
    (fun os started H enc _ => queueWaits_lifted os started H enc)
#print axioms queueWaits_said
end Go.Proofs.Ytknhohlpjhkmfaa
