/- slices.Sort, slices.Compact and slices.Contains at strings, by the library's contracts, for a slice of the call's own: the same row holds the sorted list; the head of the row holds it without repetitions. -/
import Derived.Test.YtmmmolbejfdamaaShelf
import Derived.Test.YtmmmolbejfdamaaKit
import Derived.Test.YtmmmolbejfdamaaApps
import Derived.Test.YtmmmolbejfdamaaBase
import Derived.Sort.OwnSorted
namespace Go.Proofs.Ytmmmolbejfdamaa
open Go.RowKit Go.Sort

theorem scells_enc (ss : List Bytes) : scells ss = ss.map encStr := rfl
theorem str_inj {a b : Bytes} (h : Value.string (S a) = .string (S b)) : a = b := by injection h with h; exact S_inj h

theorem sortStrs (base n : Nat) (v : Value) (ss : List Bytes) (w : World) (ho : w.ownsRow base 9 1 v n (scells ss)) (hsz : ss.length < 4611686018427387904) :
    Calls Try.prog 56 #[v] w fun e w' =>
      e = .returned (.tuple #[]) ∧ w'.ownsRow base 9 1 v n (scells (ss.mergeSort Bin.leB)) ∧ w.grownBy w' v.ownBlock := by
  have hn : n = ss.length := by have := ho.1; rw [scells_length] at this; omega
  subst hn
  rcases ho.2 with ⟨rfl, h0⟩ | ⟨g, cap, cur, rfl, hbase, hb, h1, h2, h3, h4⟩
  · obtain rfl : ss = [] := List.eq_nil_of_length_eq_zero h0
    refine (Any.slices_Sort_string_none lays190 none 0 w).mono ?_
    rintro e w' ⟨rfl, rfl⟩
    exact ⟨rfl, by simpa using ho, World.grownBy.refl _ _⟩
  · have hH : Holds encStr w g 0 ss.toArray := holds_of_block hb (by simpa [scells_enc] using h4)
    have hlt : g < w.heap.size := (Array.getElem?_eq_some_iff.1 hb).1
    refine (Any.slices_Sort_string lays190 g 0 cap ss w hH hlt hsz).mono ?_
    rintro e w' ⟨rfl, m, os, rfl⟩
    refine ⟨rfl, ?_, grownBy_sorted _⟩
    exact ownsRow_sorted (by simp) hbase hb h1 h2 h3

theorem compact_le (ss : List Bytes) : (Lib.compact ss).length ≤ ss.length := by
  unfold Lib.compact Lib.compactUpTo
  rw [List.length_map]
  exact Nat.le_trans (List.length_filter_le _ _) (by simp)

theorem compactStrs (base n : Nat) (v : Value) (ss : List Bytes) (w : World) (ho : w.ownsRow base 9 1 v n (scells ss)) (hsz : ss.length < 4611686018427387904) :
    Calls Try.prog 57 #[v] w fun e w' =>
      ∃ A c, e = .returned (.slice A (Lib.compact ss).length c) ∧ Row w' A (scells (Lib.compact ss)) ∧ w.grownBy w' v.ownBlock := by
  have hn : n = ss.length := by have := ho.1; rw [scells_length] at this; omega
  subst hn
  rcases ho.2 with ⟨rfl, h0⟩ | ⟨g, cap, cur, rfl, hbase, hb, h1, h2, h3, h4⟩
  · obtain rfl : ss = [] := List.eq_nil_of_length_eq_zero h0
    refine (Any.slices_Compact_string_empty lays194 none 0 w).mono ?_
    rintro e w' ⟨rfl, rfl⟩
    exact ⟨none, 0, rfl, Row.nil_ _ _, World.grownBy.refl _ _⟩
  · have hH : Holds encStr w g 0 ss.toArray := holds_of_block hb (by simpa [scells_enc] using h4)
    refine (Any.slices_Compact_string lays194 g 0 cap ss w hH (by omega) h1).mono ?_
    rintro e w' ⟨rfl, q, rfl⟩
    have hle := compact_le ss
    have hP := holds_putRow encStr (Sort.ahead w q) g 0 ss.toArray (Lib.compact ss ++ List.replicate (ss.length - (Lib.compact ss).length) []).toArray (holds_ahead _ _ _ _ _ _ hH) (by simp; omega)
    refine ⟨_, _, rfl, fun h0 => ⟨g, 0, rfl, fun k hk => ?_⟩, ?_⟩
    · rw [scells_length] at hk
      rw [(hP k (by simp; omega)).1]
      simp [scells, S]
      rw [List.getElem?_append_left hk, List.getElem?_eq_getElem hk]
      rfl
    · have hg := grownBy_sorted (w := w) (g := g) (n := q) (os := #[]) (Lib.compact ss ++ List.replicate (ss.length - (Lib.compact ss).length) []).toArray
      rw [grow_empty] at hg
      exact hg

theorem containsStrs (A : Option Addr) (c : Nat) (ss : List Bytes) (x : Bytes) (w : World) (hm : ss.length ≤ maxLen) (b : Bool) (hb : decide (x ∈ ss) = b) (hA : Row w A (scells ss)) :
    Calls Try.prog 23 #[.slice A ss.length c, .string (S x)] w fun e w' => e = .returned (.bool b) ∧ w = w' := by
  rcases Nat.eq_zero_or_pos ss.length with h0 | h0
  · obtain rfl : ss = [] := List.eq_nil_of_length_eq_zero h0
    refine (Any.slices_Contains_string_empty lays110 A c (S x) w).mono ?_
    rintro e w' ⟨rfl, rfl⟩
    exact ⟨by rw [← hb]; rfl, rfl⟩
  · obtain ⟨g, off, rfl, hc⟩ := hA (by rw [scells_length]; exact h0)
    refine (Any.slices_Contains_string lays110 g off ss.length c (ss.map S) (S x) w (by simp) hm (fun j hj => ?_)).mono ?_
    · have hj' : j < ss.length := by simpa using hj
      rw [hc j (by rw [scells_length]; exact hj')]
      simp [scells, List.getD, hj']
    · rintro e w' ⟨rfl, rfl⟩
      refine ⟨?_, rfl⟩
      congr 2
      rw [← hb, Bool.eq_iff_iff, Lib.containsS_iff, decide_eq_true_eq, List.take_of_length_le (by simp)]
      constructor
      · intro h
        obtain ⟨y, hy, e⟩ := List.mem_map.1 h
        rw [← S_inj e]
        exact hy
      · intro h
        exact List.mem_map.2 ⟨x, h, rfl⟩
end Go.Proofs.Ytmmmolbejfdamaa
