/- The reference: AskFault returns the first error of a request, Tag and AskTag the tag of a string and of a request. They write nothing that was there. -/
import Derived.Test.YtknhohlpjhkmfaaRefPath
import Derived.Test.YtknhohlpjhkmfaaRefLeaf
namespace Go.Proofs.Ytknhohlpjhkmfaa
open Go.RowKit

def askFault (n v : Bytes) : Int := if Bin.name n = true then (if 20 < v.length then 2 else 0) else 3
theorem askFault_ok (n v : Bytes) : askFault n v = 0 ↔ Bin.name n = true ∧ v.length ≤ 20 := by
  unfold askFault
  by_cases h : Bin.name n = true
  · rw [if_pos h]
    by_cases h2 : 20 < v.length
    · rw [if_pos h2]
      exact ⟨fun h => by simp at h, fun h => by have := h.2; omega⟩
    · rw [if_neg h2]
      exact ⟨fun _ => ⟨h, by omega⟩, fun _ => rfl⟩
  · rw [if_neg h]
    exact ⟨fun h => by simp at h, fun k => absurd k.1 h⟩
def tagOf (key : Nat) (s : Bytes) : Nat := Hash.of (be8 key ++ s ++ be8 key)
def askTag (key : Nat) (n v : Bytes) (num : Nat) : Nat := tagOf key (be8 num ++ Wire.enc [n, v])

set_option maxHeartbeats 400000 in
theorem refAskFault (n v : Bytes) (w : World) (hn : n.length ≤ maxLen) (hv : v.length ≤ maxLen) (r : Int) (hr : askFault n v = r) :
    Calls Try.prog 12 #[.string (S n), .string (S v)] w fun e w' => e = .returned (.int .i64 r) ∧ w = w' := by
  have hG := fun w => Lib.hid (goodName n w hn _ rfl)
  unfold maxLen at hv
  unfold askFault at hr
  cases hnm : Bin.name n with
  | false =>
    rw [hnm] at hG hr
    rw [if_neg (by simp)] at hr
    subst hr
    clear hnm
    go_enter Try.func12, Try.ntmps12
    go_wp2_with fail
    refine (hG _).out.mono ?_
    rintro e w1 ⟨rfl, rfl⟩
    go_wp2
    go_ret
    exact ⟨rfl, rfl⟩
  | true =>
    rw [hnm] at hG hr
    rw [if_pos rfl] at hr
    by_cases h : 20 < v.length
    · rw [if_pos h] at hr
      have c1 : decide ((20 : Int) < (v.length : Int)) = true := decide_eq_true (by omega)
      subst hr
      clear hnm h
      go_enter Try.func12, Try.ntmps12
      go_wp2_with fail
      refine (hG _).out.mono ?_
      rintro e w1 ⟨rfl, rfl⟩
      go_wp2
      go_ret
      exact ⟨rfl, rfl⟩
    · rw [if_neg h] at hr
      have c1 : decide ((20 : Int) < (v.length : Int)) = false := decide_eq_false (by omega)
      subst hr
      clear hnm h
      go_enter Try.func12, Try.ntmps12
      go_wp2_with fail
      refine (hG _).out.mono ?_
      rintro e w1 ⟨rfl, rfl⟩
      go_wp2
      go_ret
      exact ⟨rfl, rfl⟩


end Go.Proofs.Ytknhohlpjhkmfaa
