/- The last index at which two lists of strings differ, and what the search of a collision makes of it; a string of a row. No program in this text. -/
import Derived.Test.YteclnibbgdbjfaaClash
namespace Go.Proofs.Yteclnibbgdbjfaa
open Go.RowKit

theorem Row.strC {w : World} {A : Option Addr} {ss : List Bytes} (h : Row w A (scells ss)) (k : Nat) (hk : k < ss.length) : ∃ g off, A = some ⟨g, off, none⟩ ∧ w.cell? ⟨g, off + k, none⟩ = some (.string (S ss[k])) := by
  obtain ⟨g, off, e1, hc⟩ := h (by rw [scells_length]; omega)
  refine ⟨g, off, e1, ?_⟩
  rw [hc k (by rw [scells_length]; exact hk)]
  simp [scells]
theorem Row.strQ {w : World} {A : Option Addr} {ss : List Bytes} (h : Row w A (scells ss)) (k : Nat) (s : Bytes) (hk : ss[k]? = some s) : ∃ g off, A = some ⟨g, off, none⟩ ∧ w.cell? ⟨g, off + k, none⟩ = some (.string (S s)) := by
  obtain ⟨h1, h2⟩ := List.getElem?_eq_some_iff.1 hk
  obtain ⟨g, off, e, hc⟩ := h.strC k h1
  exact ⟨g, off, e, by rw [hc, h2]⟩
theorem rev_drop (a : List Bytes) (n i : Nat) (hn : a.length = n + 1) (hi : i ≤ n) : a.reverse.drop i = a[n - i]'(by omega) :: a.reverse.drop (i + 1) := by
  rw [List.drop_eq_getElem_cons (by rw [List.length_reverse]; omega), List.getElem_reverse]
  congr 2
  omega
theorem last_at (a : List Bytes) (n : Nat) (hn : a.length = n + 1) : a.getLast?.getD [] = a[n]'(by omega) := by
  rw [List.getLast?_eq_getElem?, List.getElem?_eq_getElem (by omega), Option.getD_some]
  congr 1
  omega

theorem srch_mem : ∀ (a b : List Bytes), (srch a b).2.2 = 0 → (srch a b).1 ∈ a ∧ (srch a b).2.1 ∈ b
  | x :: xs, y :: ys, h => by
    rw [srch] at h ⊢
    by_cases e : x = y
    · rw [if_pos e] at h ⊢
      obtain ⟨h1, h2⟩ := srch_mem xs ys h
      exact ⟨List.mem_cons_of_mem _ h1, List.mem_cons_of_mem _ h2⟩
    · rw [if_neg e] at h ⊢
      by_cases k : Hash.of x = Hash.of y
      · rw [if_pos k]
        exact ⟨List.mem_cons_self, List.mem_cons_self⟩
      · rw [if_neg k] at h
        simp at h
  | [], _, h => by simp [srch] at h
  | _ :: _, [], h => by simp [srch] at h
/-- What is returned is short where all strings are. -/
theorem clashOf_small {a b : List Bytes} {M : Nat} (ha : ∀ s ∈ a, s.length ≤ M) (hb : ∀ s ∈ b, s.length ≤ M) : (clashOf a b).1.length ≤ M ∧ (clashOf a b).2.1.length ≤ M := by
  by_cases h : (clashOf a b).2.2 = 0
  · unfold clashOf at h ⊢
    by_cases h1 : a.length = 0 ∨ b.length ≠ a.length
    · rw [if_pos h1] at h; simp at h
    · rw [if_neg h1] at h ⊢
      by_cases h2 : Hash.of (a.getLast?.getD []) = Hash.of (b.getLast?.getD [])
      · rw [if_pos h2] at h ⊢
        obtain ⟨e1, e2⟩ := srch_mem _ _ h
        exact ⟨ha _ (List.mem_reverse.1 e1), hb _ (List.mem_reverse.1 e2)⟩
      · rw [if_neg h2] at h; simp at h
  · obtain ⟨e1, e2⟩ := clashOf_no a b h
    rw [e1, e2]
    simp

/-- A collision. -/
def alikeP (s t : Bytes) : Prop := s ≠ t ∧ Hash.of s = Hash.of t
instance (s t : Bytes) : Decidable (alikeP s t) := inferInstanceAs (Decidable (_ ∧ _))
/-- The last index below k at which the lists differ, or -1. -/
def lu (a b : List Bytes) : Nat → Int
  | 0 => -1
  | k + 1 => if a[k]?.getD [] = b[k]?.getD [] then lu a b k else k

theorem lu_srch (a b : List Bytes) (n : Nat) (ha : a.length = n) (hb : b.length = n) : ∀ k, k ≤ n →
    (lu a b k = -1 ∧ srch (a.reverse.drop (n - k)) (b.reverse.drop (n - k)) = ([], [], 5)) ∨
    ∃ (j : Nat) (s t : Bytes), j < n ∧ a[j]? = some s ∧ b[j]? = some t ∧ lu a b k = (j : Int) ∧ srch (a.reverse.drop (n - k)) (b.reverse.drop (n - k)) = if alikeP s t then (s, t, 0) else ([], [], 5)
  | 0, _ => by
    refine .inl ⟨rfl, ?_⟩
    rw [List.drop_eq_nil_of_le (by rw [List.length_reverse]; omega)]
    simp [srch]
  | k + 1, hk => by
    obtain ⟨n', rfl⟩ : ∃ n', n = n' + 1 := ⟨n - 1, by omega⟩
    have ea := rev_drop a n' (n' - k) ha (by omega)
    have eb := rev_drop b n' (n' - k) hb (by omega)
    have e1 : n' + 1 - (k + 1) = n' - k := by omega
    have e2 : n' - (n' - k) = k := by omega
    have e3 : n' - k + 1 = n' + 1 - k := by omega
    simp only [e2, e3] at ea eb
    rw [e1, ea, eb, srch, lu]
    rw [List.getElem?_eq_getElem (show k < a.length by omega), List.getElem?_eq_getElem (show k < b.length by omega), Option.getD_some, Option.getD_some]
    by_cases he : a[k]'(by omega) = b[k]'(by omega)
    · rw [if_pos he, if_pos he]
      exact lu_srch a b (n' + 1) ha hb k (by omega)
    · rw [if_neg he, if_neg he]
      refine .inr ⟨k, _, _, by omega, List.getElem?_eq_getElem (by omega), List.getElem?_eq_getElem (by omega), rfl, ?_⟩
      by_cases hh : Hash.of (a[k]'(by omega)) = Hash.of (b[k]'(by omega))
      · rw [if_pos hh, if_pos (show alikeP _ _ from ⟨he, hh⟩)]
      · rw [if_neg hh, if_neg (show ¬ alikeP _ _ from fun h => hh h.2)]
end Go.Proofs.Yteclnibbgdbjfaa
