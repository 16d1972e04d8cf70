/- A list of entries among a law's arguments: a list of names and values, in a row of cells. -/
import Derived.Test.YtlobpjpkldmnaaaBook
import Derived.ProofKit
import Derived.OpenShut
import Derived.ChangeSame
import Derived.SizedLaws
import Derived.Deep.SlicePairs
import Derived.Test.YtlobpjpkldmnaaaMarks
import Derived.ChangeSlices
import Derived.Deep.Strs
namespace Go.Proofs.Ytlobpjpkldmnaaa
set_option maxRecDepth 100000
open Go.ChangeShapes Go.WideShapes Go.ChangeAt Go.RowKit

section
variable {H : Type} {enc : TypeId × Value → H} {W : World} {base : Nat} {v : Value} {d : DataW H} {ps : List MemPlace}

def strOf : Value → Bytes | .string s => s.data.toList | _ => []

end
end Go.Proofs.Ytlobpjpkldmnaaa
/- A proof among a law's arguments: a name, a list of entries and a list of hashes, in rows of cells. -/
namespace Go.Proofs.Ytlobpjpkldmnaaa
set_option maxRecDepth 100000
open Go.ChangeShapes Go.WideShapes Go.ChangeAt Go.RowKit

section
variable {H : Type} {enc : TypeId × Value → H} {W : World} {base : Nat} {v : Value} {d : DataW H} {ps : List MemPlace}

theorem arg_marks_of (hv : ∃ a len cap, v = .slice a len cap) (h : DataW.Trod enc Try.prog W 0 (fun _ => true) true 24 v d ps) :
    ∃ (A : Option Addr) (c : Nat) (ss : List Nat), v = .slice A ss.length c ∧ ss.length ≤ maxLen ∧ Row W A (mcells ss) ∧ (∀ z ∈ ss, z < 18446744073709551616) ∧ ss.length ≤ c ∧
      (d = .nil ∧ ss = [] ∨ ∃ el sp : List (DataW H), d = .slice el sp ∧ el.length = ss.length) := by
  obtain ⟨a0, len, cap, rfl⟩ := hv
  obtain ⟨fuel, hf⟩ := h
  rcases open_ints Try.underlying24 Try.underlying23 (by kernel_rfl) hf with ⟨hcs, hx⟩ | ⟨a, len', cap', ns, hcs, _, hl, hm, hz, hx, hcell, hws⟩
  · have e : (Value.slice a0 len cap) = .slice none 0 0 := by simpa [Value.cells] using hcs
    injection e with e1 e2 e3
    subst e1; subst e2; subst e3
    exact ⟨none, 0, [], rfl, by simp, Row.nil_ _ _, fun s hs => (by simp at hs), Nat.le_refl _, .inl ⟨by injection hx, rfl⟩⟩
  · have e : (Value.slice a0 len cap) = .slice (some a) len' cap' := by simpa [Value.cells] using hcs
    injection e with e1 e2 e3
    subst e1; subst e2; subst e3
    simp only [if_true] at hz
    have hlen : ((ns.take len).map fun z : Int => z.toNat).length = len := by simp; omega
    refine ⟨some a, cap, (ns.take len).map fun z => z.toNat, by rw [hlen], by omega, fun h0 => ?_, ?_, by rw [hlen]; exact hl, .inr ⟨_, _, by injection hx, by rw [hlen]; simp [lits]; omega⟩⟩
    · rw [mcells_length, hlen] at h0
      obtain ⟨b, off, spot⟩ := a
      have hspot : spot = none := by simpa [Addr.add] using World.cell?_spot (hcell 0 (by omega))
      subst hspot
      refine ⟨b, off, rfl, fun k hk => ?_⟩
      rw [mcells_length, hlen] at hk
      have := hcell k (by omega)
      rw [Go.WideShapes.add_plain] at this
      rw [this]
      have hw := bounds_u64 (hws _ (List.getElem_mem (show k < ns.length by omega)))
      simp [mcells, List.getD, show k < ns.length by omega]
      omega
    · intro z hz
      obtain ⟨b, hb, rfl⟩ := List.mem_map.1 hz
      have := bounds_u64 (hws b (List.mem_of_mem_take hb))
      omega
end
end Go.Proofs.Ytlobpjpkldmnaaa
