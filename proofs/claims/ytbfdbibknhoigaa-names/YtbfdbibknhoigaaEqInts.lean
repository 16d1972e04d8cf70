/- slices.Equal at []int returns true at two slices that hold one list of ints; it writes nothing. -/
import Derived.Test.YtbfdbibknhoigaaKit
namespace Go.Proofs.Ytbfdbibknhoigaa
open Go.RowKit

def icells (zs : List Int) : List Value := zs.map fun z => .int .i64 z
theorem icells_length (zs : List Int) : (icells zs).length = zs.length := by simp [icells]

set_option maxHeartbeats 400000 in
theorem eqInts_same (A C : Option Addr) (ca cc : Nat) (zs : List Int) (w : World) (hm : zs.length ≤ maxLen)
    (hA : Row w A (icells zs)) (hC : Row w C (icells zs)) :
    Calls Try.prog 7 #[.slice A zs.length ca, .slice C zs.length cc] w fun e w' => e = .returned (.bool true) ∧ ∃ m, w' = w.drewN m := by
  unfold maxLen at hm
  go_enter Try.func7, Try.ntmps7
  go_wp2
  go_loopw [13] (fun i wr => ∃ k m : Nat, k ≤ zs.length ∧ i = .int .i64 k ∧ wr = w.drewN m) (fun i _ => zs.length - (intOf i).toNat)
  case atStart => exact ⟨0, 0, Nat.zero_le _, rfl, rfl⟩
  case round =>
    obtain ⟨k, m, hk, rfl, rfl⟩ := hrel
    by_cases hlt : k < zs.length
    · obtain ⟨g, off, rfl, hc⟩ := hA (by rw [icells_length]; omega)
      obtain ⟨g', off', rfl, hc'⟩ := hC (by rw [icells_length]; omega)
      have h1 := hc k (by rw [icells_length]; exact hlt)
      have h2 := hc' k (by rw [icells_length]; exact hlt)
      simp only [icells, List.getElem_map] at h1 h2
      have hi0 : (0 : Int) ≤ (k : Int) := by omega
      have hi1 : (k : Int) < (zs.length : Int) := by omega
      clear hA hC hc hc'
      go_wp2
      go_quiet (fail)
      go_wp2
      go_roundw
      case rel => exact ⟨k + 1, _, by omega, by go_num, rfl⟩
      case measure => simp [intOf]; omega
    · go_wp2
      go_ret
      exact ⟨rfl, _, rfl⟩
end Go.Proofs.Ytbfdbibknhoigaa
