/- A head among a law's arguments: two times and two numbers; and a time. -/
import Derived.Test.YthkhafgcpmoalaaKit
import Derived.ProofKit
import Derived.OpenShut
import Derived.ChangeSame
import Derived.Lib.SmallJoins
namespace Go.Proofs.Ythkhafgcpmoalaa
set_option maxRecDepth 100000
open Go.ChangeShapes Go.WideShapes Go.ChangeAt Go.RowKit Go.Joins

section
variable {H : Type} {enc : TypeId × Value → H} {W : World} {base : Nat} {v : Value} {d : DataW H} {ps : List MemPlace}

theorem arg_int64 (hok : Value.okWide Try.prog W .any base 2 v) (h : DataW.Trod enc Try.prog W 0 (fun _ => true) true 2 v d ps) : ∃ x : Int, v = .int .i64 x ∧ -9223372036854775808 ≤ x ∧ x ≤ 9223372036854775807 := by
  obtain ⟨x, rfl, _, _, wx⟩ := open_int Try.underlying2 hok h
  have := bounds_i64 wx
  exact ⟨x, rfl, by omega, by omega⟩
theorem arg_head (hok : Value.okWide Try.prog W .any base 25 v) (h : DataW.Trod enc Try.prog W 0 (fun _ => true) true 25 v d ps) :
    ∃ (ep : Int) (rt pv : Nat) (tm : Int), v = .agg #[.int .i64 ep, .int .u64 (rt : Int), .int .u64 (pv : Int), .int .i64 tm] ∧ (-9223372036854775808 ≤ ep ∧ ep ≤ 9223372036854775807) ∧ rt < 18446744073709551616 ∧ pv < 18446744073709551616 ∧ (-9223372036854775808 ≤ tm ∧ tm ≤ 9223372036854775807) := by
  obtain ⟨cs, rfl, hcs⟩ := okWide_struct Try.underlying25 hok
  have hc : Try.prog.cellsOf 25 = 4 := by kernel_rfl
  have hc1 : Try.prog.cellsOf 2 = 1 := by kernel_rfl
  have hc2 : Try.prog.cellsOf 23 = 1 := by kernel_rfl
  obtain ⟨fuel, hf⟩ := h
  obtain ⟨y0, y1, y2, y3, n, _, _, h0, h1, h2, h3⟩ := trod_struct4 Try.underlying25 hf
  rw [hc] at hcs
  obtain ⟨l⟩ := cs
  match l, hcs with
  | [c0, c1, c2, c3], _ =>
    simp [Value.cells, hc1, hc2] at h0 h1 h2 h3
    obtain ⟨x1, e1, _, l1⟩ := DataW.trod_int Try.underlying2 h0
    obtain ⟨x2, e2, _, l2⟩ := DataW.trod_int Try.underlying23 h1
    obtain ⟨x3, e3, _, l3⟩ := DataW.trod_int Try.underlying23 h2
    obtain ⟨x4, e4, _, l4⟩ := DataW.trod_int Try.underlying2 h3
    simp only [List.cons.injEq, and_true] at e1 e2 e3 e4
    subst e1; subst e2; subst e3; subst e4
    have b1 := bounds_i64 l1
    have b2 := bounds_u64 l2
    have b3 := bounds_u64 l3
    have b4 := bounds_i64 l4
    exact ⟨x1, x2.toNat, x3.toNat, x4, by rw [Int.toNat_of_nonneg b2.1, Int.toNat_of_nonneg b3.1], ⟨by omega, by omega⟩, by omega, by omega, ⟨by omega, by omega⟩⟩
end
end Go.Proofs.Ythkhafgcpmoalaa
