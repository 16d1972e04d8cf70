/- mark.Alike returns whether two strings differ and have one hash; the check 'marked' returns true. They write nothing. -/
import Derived.Test.YtlobpjpkldmnaaaMark
namespace Go.Proofs.Ytlobpjpkldmnaaa
open Go.RowKit

/-- A collision. -/
def alikeB (s t : Bytes) : Bool := !(s == t) && Hash.of s == Hash.of t
theorem alikeB_iff (s t : Bytes) : alikeB s t = true ↔ s ≠ t ∧ Hash.of s = Hash.of t := by simp [alikeB]

set_option maxHeartbeats 400000 in
theorem markAlike (s t : Bytes) (w : World) (hs : s.length ≤ maxLen) (ht : t.length ≤ maxLen) (b : Bool) (hb : alikeB s t = b) :
    Calls Try.prog 24 #[.string (S s), .string (S t)] w fun e w' => e = .returned (.bool b) ∧ ∃ m, w' = w.drewN m := by
  by_cases he : s = t
  · subst he
    obtain rfl : b = false := by rw [← hb]; simp [alikeB]
    clear hb hs ht
    go_enter Try.func24, Try.ntmps24
    go_wp2
    go_ret
    exact ⟨rfl, 0, rfl⟩
  · have h1 : (s == t) = false := by simp [he]
    have hS := fun w => Lib.hid (markOf s w hs)
    have hT := fun w => Lib.hid (markOf t w ht)
    obtain rfl : b = (Hash.of s == Hash.of t) := by rw [← hb]; simp [alikeB, he]
    clear hb hs ht he
    generalize Hash.of s = x at *
    generalize Hash.of t = y at *
    have HE : Hid (((x : Int) == (y : Int)) = (x == y)) := by
      show ((x : Int) == (y : Int)) = (x == y)
      rw [Bool.eq_iff_iff, beq_iff_eq, beq_iff_eq]
      exact ⟨fun h => by omega, fun h => by omega⟩
    go_enter Try.func24, Try.ntmps24
    go_wp2_with fail
    refine (hS _).out.mono ?_
    rintro e w1 ⟨rfl, m1, rfl⟩
    go_wp2_with fail
    refine (hT _).out.mono ?_
    rintro e w1 ⟨rfl, m2, rfl⟩
    go_wp2
    go_ret
    exact ⟨by rw [← HE.out]; rfl, _, rfl⟩

end Go.Proofs.Ytlobpjpkldmnaaa
