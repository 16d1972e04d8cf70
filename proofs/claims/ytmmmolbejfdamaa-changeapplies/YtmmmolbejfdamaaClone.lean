/- slices.Clone at entries and at hashes returns a new slice with the same elements. It writes nothing that was there. -/
import Derived.Test.YtmmmolbejfdamaaMarks
import Derived.Test.YtmmmolbejfdamaaOwnS
import Derived.Lib.SliceRun
namespace Go.Proofs.Ytmmmolbejfdamaa
set_option maxRecDepth 100000
open Go.RowKit

/-- A list of entries of the call's own, and what lies behind it. -/
def EntsGivesS (T : List Ent) (w : World) (e : Ending) (w' : World) : Prop := ∃ D d, e = .returned (.slice D T.length d) ∧ ownsS w' w.heap.size (.slice D T.length d) T ∧ Below w.heap.size w w'
set_option maxHeartbeats 800000 in
theorem cloneEntsS (A : Option Addr) (c : Nat) (es : List Ent) (w : World) (hm : es.length * 32 ≤ 140737488351232) (hA : Row w A (encells es)) :
    Calls Try.prog 12 #[.slice A es.length c] w (EntsGivesS es w) := by
  have q : ∀ (w : World) (a : Option Addr) (n c n' c' : Nat), (binOp .eql 22 (.slice a n c) (.slice none n' c')).run Try.prog w = .ok (.bool a.isNone) w := fun w a n c n' c' => Lib.run_eql_slice_nil w _ _ a n c n' c' Try.underlying22
  cases A with
  | none =>
    have h0 : es.length = 0 := by
      rcases Nat.eq_zero_or_pos es.length with h | h
      · exact h
      · obtain ⟨g, off, e, _⟩ := hA (by rw [encells_length]; omega)
        cases e
    obtain rfl : es = [] := List.eq_nil_of_length_eq_zero h0
    go_enter Try.func12, Try.ntmps12
    go_wp2
    go_ret
    exact ⟨none, 0, rfl, ownsS.nil _ _, Below.refl _ _⟩
  | some a =>
    have hown : ownsS (w.alloc (.cells #[] 34)) w.heap.size (.slice (some ⟨w.heap.size, 0, none⟩) 0 0) [] := .inr ⟨w.heap.size, 0, rfl, Nat.le_refl _, Nat.zero_le _, heap_alloc_new w _⟩
    have hA1 := hA.alloc (.cells #[] 34)
    have hb0 : Below w.heap.size w (w.alloc (.cells #[] 34)) := (Below.refl _ w).alloc (Nat.le_refl _) _
    obtain ⟨v1, w1, hrun, hown1, hgrow1, -⟩ := run_appS _ 22 w.heap.size _ [] hown (some a) c es hA1 (by simp; omega) hb0.size
    have hb1 := hb0.grown hgrow1 hb0.size (fun k hk => (hown.lt k hk).1)
    rw [List.nil_append] at hown1
    clear hA hA1
    go_enter Try.func12, Try.ntmps12
    go_wp2_with (at_builtin; refine app_run _ rfl _ _ _ _ rfl _ _ _ _ rfl rfl hrun ?_)
    obtain ⟨D, d, rfl⟩ := hown1.shape
    go_ret
    exact ⟨D, d, rfl, hown1, hb1⟩
theorem cloneEnts (A : Option Addr) (c : Nat) (es : List Ent) (w : World) (hm : es.length * 32 ≤ 140737488351232) (hA : Row w A (encells es)) :
    Calls Try.prog 12 #[.slice A es.length c] w (EntsGives es w) := by
  refine (cloneEntsS A c es w hm hA).mono ?_
  rintro e w' ⟨D, d, h1, h2, h3⟩
  exact ⟨D, d, h1, Row.ownE h2.row, h3⟩
end Go.Proofs.Ytmmmolbejfdamaa
