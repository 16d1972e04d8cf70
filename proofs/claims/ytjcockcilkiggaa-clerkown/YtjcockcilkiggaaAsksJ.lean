/- A request among a law's arguments: a name, a value and two numbers. -/
import Derived.Test.YtjcockcilkiggaaJ01
import Derived.ProofKit
import Derived.OpenShut
import Derived.ChangeSame
import Derived.Lib.SmallJoins
namespace Go.Proofs.Ytjcockcilkiggaa
set_option maxRecDepth 100000
open Go.ChangeShapes Go.WideShapes Go.ChangeAt Go.RowKit Go.Joins

section
variable {H : Type} {enc : TypeId × Value → H} {W : World} {base : Nat} {v : Value} {d : DataW H} {ps : List MemPlace}

theorem arg_ask (hok : Value.okWide Try.prog W .any base 35 v) (h : DataW.Trod enc Try.prog W 0 (fun _ => true) true 35 v d ps) :
    ∃ (n v' : Bytes) (x t : Nat), v = .agg #[.string (S n), .string (S v'), .int .u64 (x : Int), .int .u64 (t : Int)] ∧ n.length ≤ maxLen ∧ v'.length ≤ maxLen ∧ x < 18446744073709551616 ∧ t < 18446744073709551616 := by
  obtain ⟨cs, rfl, hcs⟩ := okWide_struct Try.underlying35 hok
  have hc : Try.prog.cellsOf 35 = 4 := by kernel_rfl
  have hc1 : Try.prog.cellsOf 9 = 1 := by kernel_rfl
  have hc2 : Try.prog.cellsOf 33 = 1 := by kernel_rfl
  obtain ⟨fuel, hf⟩ := h
  obtain ⟨y0, y1, y2, y3, n, _, _, h0, h1, h2, h3⟩ := trod_struct4 Try.underlying35 hf
  rw [hc] at hcs
  obtain ⟨l⟩ := cs
  match l, hcs with
  | [c0, c1, c2, c3], _ =>
    simp [Value.cells, hc1, hc2] at h0 h1 h2 h3
    obtain ⟨s1, e1, _, l1⟩ := DataW.trod_string Try.underlying9 h0
    obtain ⟨s2, e2, _, l2⟩ := DataW.trod_string Try.underlying9 h1
    obtain ⟨x3, e3, _, l3⟩ := DataW.trod_int Try.underlying33 h2
    obtain ⟨x4, e4, _, l4⟩ := DataW.trod_int Try.underlying33 h3
    simp only [List.cons.injEq, and_true] at e1 e2 e3 e4
    subst e1; subst e2; subst e3; subst e4
    have b3 := bounds_u64 l3
    have b4 := bounds_u64 l4
    refine ⟨s1.data.toList, s2.data.toList, x3.toNat, x4.toNat, by rw [← S_of, ← S_of, Int.toNat_of_nonneg b3.1, Int.toNat_of_nonneg b4.1], ?_, ?_, by omega, by omega⟩
    · rw [Array.length_toList]; exact l1
    · rw [Array.length_toList]; exact l2
end
end Go.Proofs.Ytjcockcilkiggaa
