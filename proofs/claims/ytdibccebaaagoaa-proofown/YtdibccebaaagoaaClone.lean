/- slices.Clone at entries and at hashes returns a new slice with the same elements. It writes nothing that was there. -/
import Derived.Test.YtdibccebaaagoaaMarks
import Derived.Lib.SliceRun
namespace Go.Proofs.Ytdibccebaaagoaa
set_option maxRecDepth 100000
open Go.RowKit

set_option maxHeartbeats 800000 in
theorem cloneEnts (A : Option Addr) (c : Nat) (es : List Ent) (w : World) (hm : es.length * 32 ≤ 140737488351232) (hA : Row w A (encells es)) :
    Calls Try.prog 10 #[.slice A es.length c] w (EntsGives es w) := by
  have q : ∀ (w : World) (a : Option Addr) (n c n' c' : Nat), (binOp .eql 23 (.slice a n c) (.slice none n' c')).run Try.prog w = .ok (.bool a.isNone) w := fun w a n c n' c' => Lib.run_eql_slice_nil w _ _ a n c n' c' Try.underlying23
  cases A with
  | none =>
    have h0 : es.length = 0 := by
      rcases Nat.eq_zero_or_pos es.length with h | h
      · exact h
      · obtain ⟨g, off, e, _⟩ := hA (by rw [encells_length]; omega)
        cases e
    obtain rfl : es = [] := List.eq_nil_of_length_eq_zero h0
    go_enter Try.func10, Try.ntmps10
    go_wp2
    go_ret
    exact ⟨none, 0, rfl, Row.nil_ _ _, Below.refl _ _⟩
  | some a =>
    have hown := World.ownsRow_made (e := 38) (size := 2) w #[] 0 (Nat.le_refl _) (Nat.zero_le _) rfl
    have hcell : ∀ j u, (encells es)[j]? = some u → (w.alloc (.cells #[] 38)).cell? (a.add j) = some u := by
      intro j u hu
      obtain ⟨hj, rfl⟩ := List.getElem?_eq_some_iff.1 hu
      obtain ⟨g, off, e, hc⟩ := (hA.alloc (.cells #[] 38)) (by omega)
      injection e with e
      subst e
      rw [Go.WideShapes.add_plain]
      exact hc j hj
    go_enter Try.func10, Try.ntmps10
    go_wp2_with (at_builtin; refine app_ents _ rfl _ _ rfl w.heap.size _ [] rfl hown a c es es.length rfl rfl hcell (by simp; omega) (by simp) ?_; intro v1 w1 hown1 hgrow1; rw [List.nil_append] at hown1)
    obtain ⟨D, d, rfl⟩ := own_shapeE hown1
    go_ret
    exact ⟨D, d, rfl, Row.ownE hown1, ((Below.refl _ w).alloc (Nat.le_refl _) _).grown hgrow1 (by simp) (fun k hk => (hown.lt k hk).1)⟩
/-- A list of hashes of the call's own. -/
def MarksGives (T : List Nat) (w : World) (e : Ending) (w' : World) : Prop := ∃ D d, e = .returned (.slice D T.length d) ∧ Row w' D (mcells T) ∧ Below w.heap.size w w'
set_option maxHeartbeats 800000 in
theorem cloneMarks (A : Option Addr) (c : Nat) (ss : List Nat) (w : World) (hm : ss.length * 8 ≤ 140737488351232) (hA : Row w A (mcells ss)) :
    Calls Try.prog 11 #[.slice A ss.length c] w (MarksGives ss w) := by
  have q : ∀ (w : World) (a : Option Addr) (n c n' c' : Nat), (binOp .eql 24 (.slice a n c) (.slice none n' c')).run Try.prog w = .ok (.bool a.isNone) w := fun w a n c n' c' => Lib.run_eql_slice_nil w _ _ a n c n' c' Try.underlying24
  cases A with
  | none =>
    have h0 : ss.length = 0 := by
      rcases Nat.eq_zero_or_pos ss.length with h | h
      · exact h
      · obtain ⟨g, off, e, _⟩ := hA (by rw [mcells_length]; omega)
        cases e
    obtain rfl : ss = [] := List.eq_nil_of_length_eq_zero h0
    go_enter Try.func11, Try.ntmps11
    go_wp2
    go_ret
    exact ⟨none, 0, rfl, Row.nil_ _ _, Below.refl _ _⟩
  | some a =>
    have hown := World.ownsRow_made (e := 22) (size := 1) w #[] 0 (Nat.le_refl _) (Nat.zero_le _) rfl
    have hcell : ∀ j u, (mcells ss)[j]? = some u → (w.alloc (.cells #[] 22)).cell? (a.add j) = some u := by
      intro j u hu
      obtain ⟨hj, rfl⟩ := List.getElem?_eq_some_iff.1 hu
      obtain ⟨g, off, e, hc⟩ := (hA.alloc (.cells #[] 22)) (by omega)
      injection e with e
      subst e
      rw [Go.WideShapes.add_plain]
      exact hc j hj
    go_enter Try.func11, Try.ntmps11
    go_wp2_with (at_builtin; refine app_marks _ rfl _ _ rfl w.heap.size _ [] rfl hown a c ss ss.length rfl rfl hcell (by simp; omega) (by simp) ?_; intro v1 w1 hown1 hgrow1; rw [List.nil_append] at hown1)
    obtain ⟨D, d, rfl⟩ := own_shape hown1
    go_ret
    exact ⟨D, d, rfl, Row.own hown1, ((Below.refl _ w).alloc (Nat.le_refl _) _).grown hgrow1 (by simp) (fun k hk => (hown.lt k hk).1)⟩
end Go.Proofs.Ytdibccebaaagoaa
