/- The check that package tree is built returns true. -/
import Derived.Test.YtmmmolbejfdamaaTreeSet
namespace Go.Proofs.Ytmmmolbejfdamaa
open Go.RowKit

theorem good_nil : Good [] := ⟨by simp, fun x hx => by simp at hx, fun x hx => by simp at hx, by simp⟩
theorem set_live (w : World) : Calls Try.prog 29 #[.slice none 0 0, .string ⟨#[97]⟩, .string ⟨#[98]⟩] w fun e w' => ∃ g off d, e = .returned (.tuple #[.slice (some ⟨g, off, none⟩) 1 d, .int .i64 0]) ∧ w'.cell? ⟨g, off + 1, none⟩ = some (.string ⟨#[98]⟩) ∧ Below w.heap.size w w' := by
  have hn : Bin.name [97] = true := by decide
  have h := treeSet_yes none 0 [] [97] [98] w (by simp) (Row.nil_ _ _) ((setErr_ok [] [97] [98]).2 ⟨good_nil, hn, by simp, .inr (by simp)⟩)
  have hT : setTo [97] [98] [] = [([97], [98])] := by rw [setTo_at _ _ _ good_nil.order]; rfl
  rw [hT] at h
  refine h.mono ?_
  rintro e w' ⟨D, d, rfl, hown, hb⟩
  obtain ⟨g, off, rfl, -, h2⟩ := (Row.ownE hown).ent 0 (by simp)
  exact ⟨g, off, d, rfl, h2, hb⟩

set_option maxHeartbeats 400000 in
theorem trees (w : World) : Calls Try.prog 28 #[] w fun e w' => e = .returned (.bool true) ∧ Below w.heap.size w w' := by
  have h := fun w => Lib.hid (set_live w)
  go_enter Try.func28, Try.ntmps28
  go_wp2_with fail
  refine (h _).out.mono ?_
  rintro e w1 ⟨g, off, d, rfl, hc, hb⟩
  go_wp2
  go_ret
  exact ⟨rfl, hb⟩
end Go.Proofs.Ytmmmolbejfdamaa
