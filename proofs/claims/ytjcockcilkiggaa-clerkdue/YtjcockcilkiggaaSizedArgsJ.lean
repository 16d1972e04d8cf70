/- A list of requests among a law's arguments, within the form's own reach. -/
import Derived.Test.YtjcockcilkiggaaJ39
import Derived.Test.YtjcockcilkiggaaJ15
namespace Go.Proofs.Ytjcockcilkiggaa
set_option maxRecDepth 100000
open Go.ChangeShapes Go.WideShapes Go.ChangeAt Go.RowKit Go.Joins

section
variable {H : Type} {enc : TypeId × Value → H} {W : World} {base : Nat} {v : Value} {d : DataW H} {ps : List MemPlace}
theorem arg_asks_sized {ts : List TypeId} {ds : List (DataW H)} {j : Nat} (hsz : (DataW.weightsEach Try.prog ts ds).all (· ≤ reachBytes) = true) (ht : ts[j]? = some 22) (hd : ds[j]? = some d)
    (hok : Value.okWide Try.prog W .any base 22 v) (h : DataW.Trod enc Try.prog W 0 (fun _ => true) true 22 v d ps) :
    ∃ (A : Option Addr) (c : Nat) (l : List Ak), v = .slice A l.length c ∧ l.length * 48 ≤ 140737488351232 ∧ Row W A (qcells l) ∧ l.length ≤ c ∧ (∀ x ∈ l, (x.1.length ≤ maxLen ∧ x.2.1.length ≤ maxLen) ∧ x.2.2.1 < 18446744073709551616 ∧ x.2.2.2 < 18446744073709551616) := by
  obtain ⟨A, c, l, rfl, hm, hr, hc, hcm, hf, hdd⟩ := arg_asks hok h
  refine ⟨A, c, l, rfl, ?_, hr, hc, hf⟩
  rcases hdd with ⟨_, rfl⟩ | ⟨el, sp, rfl, he⟩
  · simp
  · have := sized_slice hsz ht hd Try.underlying22
    have hb : Try.prog.bytesOf 35 = 48 := by kernel_rfl
    have hR : reachBytes = 140737488351232 := by kernel_rfl
    rw [hb, hR] at this
    omega
end
end Go.Proofs.Ytjcockcilkiggaa
