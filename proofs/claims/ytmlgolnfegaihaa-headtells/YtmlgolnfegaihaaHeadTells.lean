/- The law HeadTells returns true: for every head, root, time and string, Said, Mark, First, Next, Read and Check return what the reference returns. Nothing that was there is written. No conditions. -/
import Derived.Test.YtmlgolnfegaihaaLaw
import Derived.Test.YtmlgolnfegaihaaHeadArgs
import Derived.Test.YtmlgolnfegaihaaHeadTellsBad
import Derived.Test.YtmlgolnfegaihaaHeadTellsFull
import Derived.Test.YtmlgolnfegaihaaHeadTellsRoot
import Derived.Test.YtmlgolnfegaihaaHeadTellsLow
import Derived.Test.YtmlgolnfegaihaaHeadTellsHigh
import Derived.Test.YtmlgolnfegaihaaHeadTellsOk
namespace Go.Proofs.Ytmlgolnfegaihaa
set_option maxRecDepth 100000
open Go.ChangeShapes Go.WideShapes Go.ChangeAt Go.RowKit

theorem headTells_walk (ep : Int) (rt pv : Nat) (tm : Int) (nr : Nat) (at' : Int) (l : Bytes) (w : World) :
    Calls Try.prog 3 #[.agg #[.int .i64 ep, .int .u64 (rt : Int), .int .u64 (pv : Int), .int .i64 tm], .int .u64 (nr : Int), .int .i64 at', .string (S l)] w fun e w' => e = .returned (.bool true) ∧ Below w.heap.size w w' := by
  by_cases h : hfault (ep, rt, pv, tm) = 0
  · have hg := (hfault_ok _).1 h
    by_cases he : ep = 1000000
    · exact headTells_Full ep rt pv tm nr at' l w hg he
    by_cases hn : 2305843009213693951 ≤ nr
    · exact headTells_Root ep rt pv tm nr at' l w hg he hn
    by_cases ht : at' < tm
    · exact headTells_Low ep rt pv tm nr at' l w hg he (by omega) ht
    by_cases hu : 1000000000 < at'
    · exact headTells_High ep rt pv tm nr at' l w hg he (by omega) ht hu
    · exact headTells_Ok ep rt pv tm nr at' l w ⟨hg, he, by omega, by dsimp only; omega, by omega⟩
  · exact headTells_Bad ep rt pv tm nr at' l w _ rfl h

set_option maxRecDepth 100000 in
theorem headTells_lifted (os : Os) (started : os.Started) (H : Type) (enc : TypeId × Value → H) :
    ReturnsInHanded {} Try.checked os 3 .any (Rows.headTellsSpec.pre6 enc Try.prog Try.f3 Rows.headTellsRow.domain false) (Rows.headTellsSpec.post enc Try.prog Try.f3 false true false false) := by
  refine returnsInHanded_of_change (C := Try.checked) own started (by kernel_rfl) Try.func3
    (ChangeSpec.witness6 (enc := enc) (C := Try.checked) false ⟨#[], #[.agg #[.int .i64 0, .int .u64 0, .int .u64 0, .int .i64 0], .int .u64 0, .int .i64 0, .string ⟨#[]⟩], []⟩ 8 (by kernel_rfl) (by kernel_rfl) (by kernel_rfl) (by kernel_rfl)) ?_
  intro W base args ds gs before hval0 hW hcnd _
  have hval : ∀ (j : Nat) t v, Try.f3.params[j]? = some t → args[j]? = some v → Value.okWide Try.prog W .any base t v := hval0
  have hW' := hW
  obtain ⟨p, q, hA0, hV, rfl, hfz, hnd⟩ := hW
  have hA : DataW.TrodAll enc Try.prog W 0 (fun _ => true) true Try.f3.params.toList args.toList ds p := hA0
  rw [Try.params3] at hA hval
  obtain ⟨v0, vs0, d0, ds0, p0, q0, hargs, rfl, rfl, h0, r0⟩ := trodAll_cons hA
  obtain ⟨v1, vs1, d1, ds1, p1, q1, rfl, rfl, rfl, h1, r1⟩ := trodAll_cons r0
  obtain ⟨v2, vs2, d2, ds2, p2, q2, rfl, rfl, rfl, h2, r2⟩ := trodAll_cons r1
  obtain ⟨v3, vs3, d3, ds3, p3, q3, rfl, rfl, rfl, h3, r3⟩ := trodAll_cons r2
  obtain ⟨rfl, rfl, rfl⟩ := trodAll_nil r3
  obtain rfl : args = #[v0, v1, v2, v3] := by cases args; simp_all
  obtain ⟨rfl, rfl⟩ := trodVars_none hV
  obtain ⟨ep0, rt0, pv0, tm0, rfl, hep0, hrt0, hpv0, htm0⟩ := arg_head (hval 0 24 v0 rfl rfl) h0
  obtain ⟨n1, rfl, hn1⟩ := arg_u64 (hval 1 22 v1 rfl rfl) h1
  obtain ⟨x2, rfl, hx2, hy2⟩ := arg_int64 (hval 2 2 v2 rfl rfl) h2
  obtain ⟨l3, rfl, hl3⟩ := arg_str (hval 3 9 v3 rfl rfl) h3
  refine (headTells_walk ep0 rt0 pv0 tm0 n1 x2 l3 W).mono fun e W' ⟨he, hb⟩ => ?_
  subst he
  exact ⟨_, rfl, post_law laidOut (by decide +kernel) rfl Try.underlying4 (by kernel_rfl) hW' rfl hb⟩

/-- The statement. -/
theorem headTells_said : Rows.HeadTellsSaid :=
  OpenClaim.holds_of_wide 3 Try.f3 rfl rfl rfl rfl rfl rfl rfl ⟨rfl, rfl, rfl, rfl, rfl⟩ rfl rfl rfl rfl rfl (by kernel_rfl) Try.func3 (by kernel_rfl)
    (of_decide_eq_true (by kernel_rfl)) (by unfold Func.isWrapper; first | (rw [if_pos (by decide +kernel)]; kernel_rfl) | (rw [if_neg (by decide +kernel)]; exact ⟨rfl, rfl⟩))
    (fun os started H enc _ => headTells_lifted os started H enc)
#print axioms headTells_said
end Go.Proofs.Ytmlgolnfegaihaa
