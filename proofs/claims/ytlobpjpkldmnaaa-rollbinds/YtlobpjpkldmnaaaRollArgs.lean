/- A list of strings and a list of hashes among a law's arguments, with what their capacity allows. -/
import Derived.Test.YtlobpjpkldmnaaaArgs
import Derived.Test.YtlobpjpkldmnaaaLaw
namespace Go.Proofs.Ytlobpjpkldmnaaa
set_option maxRecDepth 100000
open Go.ChangeShapes Go.WideShapes Go.ChangeAt Go.RowKit

section
variable {H : Type} {enc : TypeId × Value → H} {W : World} {base : Nat} {v : Value} {d : DataW H} {ps : List MemPlace}
theorem arg_strsC (hok : Value.okWide Try.prog W .any base 22 v) (h : DataW.Trod enc Try.prog W 0 (fun _ => true) true 22 v d ps) :
    ∃ (A : Option Addr) (c : Nat) (ss : List Bytes), v = .slice A ss.length c ∧ ss.length ≤ maxLen ∧ Row W A (scells ss) ∧ (∀ s ∈ ss, s.length ≤ maxLen) ∧ ss.length ≤ c := by
  obtain ⟨A, c, ss, rfl, hm, hr, hs⟩ := arg_strs hok h
  refine ⟨A, c, ss, rfl, hm, hr, hs, ?_⟩
  obtain ⟨fuel, hf⟩ := h
  rcases open_strings Try.underlying22 Try.underlying9 cells_string hf with ⟨hcs, _⟩ | ⟨a, len', cap', rs, hcs, _, hl, _⟩
  · have e : (Value.slice A ss.length c) = .slice none 0 0 := by simpa [Value.cells] using hcs
    injection e with e1 e2 e3
    omega
  · have e : (Value.slice A ss.length c) = .slice (some a) len' cap' := by simpa [Value.cells] using hcs
    injection e with e1 e2 e3
    omega
theorem arg_marksC (hok : Value.okWide Try.prog W .any base 24 v) (h : DataW.Trod enc Try.prog W 0 (fun _ => true) true 24 v d ps) :
    ∃ (A : Option Addr) (c : Nat) (ss : List Nat), v = .slice A ss.length c ∧ ss.length ≤ maxLen ∧ Row W A (mcells ss) ∧ (∀ z ∈ ss, z < 18446744073709551616) ∧ ss.length ≤ c ∧ c ≤ maxLen := by
  obtain ⟨A, c, ss, rfl, hm, hr, hs, hc, -⟩ := arg_marks_of (okWide_slice Try.underlying24 hok) h
  refine ⟨A, c, ss, rfl, hm, hr, hs, hc, ?_⟩
  obtain ⟨fuel, hf⟩ := h
  rcases open_ints Try.underlying24 Try.underlying23 (by kernel_rfl) hf with ⟨hcs, _⟩ | ⟨a, len', cap', rs, hcs, _, _, hl, _⟩
  · have e : (Value.slice A ss.length c) = .slice none 0 0 := by simpa [Value.cells] using hcs
    injection e with e1 e2 e3
    subst e3
    unfold maxLen; omega
  · have e : (Value.slice A ss.length c) = .slice (some a) len' cap' := by simpa [Value.cells] using hcs
    injection e with e1 e2 e3
    omega
end
end Go.Proofs.Ytlobpjpkldmnaaa
