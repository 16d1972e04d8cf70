/- The law ChainTells returns true: for every list of heads, root, times and head, Check, Grow, Part and Follows answer what the reference answers. Nothing that was there is written. No conditions. -/
import Derived.Test.YthkhafgcpmoalaaChainTells
import Derived.Test.YthkhafgcpmoalaaHeadArgs
namespace Go.Proofs.Ythkhafgcpmoalaa
set_option maxRecDepth 100000
open Go.RowKit Go.ChangeShapes Go.WideShapes Go.ChangeAt

theorem chainTells_walk (A : Option Addr) (c : Nat) (l : List Hd) (nr : Nat) (na fr tq ep : Int) (rt pv : Nat) (tm : Int) (w : World) (hm : l.length ≤ maxLen) (hc : l.length ≤ c) (hcm : c ≤ maxLen) (hA : Row w A (hcells l)) :
    Calls Try.prog 3 #[.slice A l.length c, .int .u64 (nr : Int), .int .i64 na, .int .i64 fr, .int .i64 tq, .agg #[.int .i64 ep, .int .u64 (rt : Int), .int .u64 (pv : Int), .int .i64 tm]] w fun e w' => e = .returned (.bool true) ∧ Below w.heap.size w w' := by
  by_cases h : (cfault l).1 = 0
  · exact chainTells_good A c l nr na fr tq ep rt pv tm w hc hcm hA ((cfault_ok l).1 h)
  · exact chainTells_bad A c l nr na fr tq ep rt pv tm w hm hA _ _ rfl h

set_option maxRecDepth 100000 in
theorem chainTells_lifted (os : Os) (started : os.Started) (H : Type) (enc : TypeId × Value → H) :
    ReturnsInHanded {} Try.checked os 3 .any (Rows.chainTellsSpec.pre6 enc Try.prog Try.f3 Rows.chainTellsRow.domain false) (Rows.chainTellsSpec.post enc Try.prog Try.f3 false true false false) := by
  refine returnsInHanded_of_change (C := Try.checked) own started (by kernel_rfl) Try.func3
    (ChangeSpec.witness6 (enc := enc) (C := Try.checked) false ⟨#[], #[.slice none 0 0, .int .u64 0, .int .i64 0, .int .i64 0, .int .i64 0, .agg #[.int .i64 0, .int .u64 0, .int .u64 0, .int .i64 0]], []⟩ 8 (by kernel_rfl) (by kernel_rfl) (by kernel_rfl) (by kernel_rfl)) ?_
  intro W base args ds gs before hval0 hW hcnd _
  have hval : ∀ (j : Nat) t v, Try.f3.params[j]? = some t → args[j]? = some v → Value.okWide Try.prog W .any base t v := hval0
  have hW' := hW
  obtain ⟨p, q, hA0, hV, rfl, hfz, hnd⟩ := hW
  have hA : DataW.TrodAll enc Try.prog W 0 (fun _ => true) true Try.f3.params.toList args.toList ds p := hA0
  rw [Try.params3] at hA hval
  obtain ⟨v0, vs0, d0, ds0, p0, q0, hargs, rfl, rfl, h0, r0⟩ := trodAll_cons hA
  obtain ⟨v1, vs1, d1, ds1, p1, q1, rfl, rfl, rfl, h1, r1⟩ := trodAll_cons r0
  obtain ⟨v2, vs2, d2, ds2, p2, q2, rfl, rfl, rfl, h2, r2⟩ := trodAll_cons r1
  obtain ⟨v3, vs3, d3, ds3, p3, q3, rfl, rfl, rfl, h3, r3⟩ := trodAll_cons r2
  obtain ⟨v4, vs4, d4, ds4, p4, q4, rfl, rfl, rfl, h4, r4⟩ := trodAll_cons r3
  obtain ⟨v5, vs5, d5, ds5, p5, q5, rfl, rfl, rfl, h5, r5⟩ := trodAll_cons r4
  obtain ⟨rfl, rfl, rfl⟩ := trodAll_nil r5
  obtain rfl : args = #[v0, v1, v2, v3, v4, v5] := by cases args; simp_all
  obtain ⟨rfl, rfl⟩ := trodVars_none hV
  obtain ⟨A0, c0, s0, rfl, hm0, hr0, hc0, hd0, hs0, -⟩ := arg_heads (hval 0 22 v0 rfl rfl) h0
  obtain ⟨n1, rfl, hn1⟩ := arg_u64 (hval 1 23 v1 rfl rfl) h1
  obtain ⟨x2, rfl, hx2, hy2⟩ := arg_int64 (hval 2 2 v2 rfl rfl) h2
  obtain ⟨x3, rfl, hx3, hy3⟩ := arg_int64 (hval 3 2 v3 rfl rfl) h3
  obtain ⟨x4, rfl, hx4, hy4⟩ := arg_int64 (hval 4 2 v4 rfl rfl) h4
  obtain ⟨ep5, rt5, pv5, tm5, rfl, hep5, hrt5, hpv5, htm5⟩ := arg_head (hval 5 25 v5 rfl rfl) h5
  refine (chainTells_walk A0 c0 s0 n1 x2 x3 x4 ep5 rt5 pv5 tm5 W hm0 hc0 hd0 hr0).mono fun e W' ⟨he, hb⟩ => ?_
  subst he
  exact ⟨_, rfl, post_law laidOut (by decide +kernel) rfl Try.underlying4 (by kernel_rfl) hW' rfl hb⟩

/-- The statement. -/
theorem chainTells_said : Rows.ChainTellsSaid :=
  OpenClaim.holds_of_wide 3 Try.f3 rfl rfl rfl rfl rfl rfl rfl ⟨rfl, rfl, rfl, rfl, rfl⟩ rfl rfl rfl rfl rfl (by kernel_rfl) Try.func3 (by kernel_rfl)
    (of_decide_eq_true (by kernel_rfl)) (by unfold Func.isWrapper; first | (rw [if_pos (by decide +kernel)]; kernel_rfl) | (rw [if_neg (by decide +kernel)]; exact ⟨rfl, rfl⟩))
    (fun os started H enc _ => chainTells_lifted os started H enc)
#print axioms chainTells_said
end Go.Proofs.Ythkhafgcpmoalaa
