/- What a search from the root finds, on plain lists: its names are in order, each lies under the prefix, and there are not too many. No program in this text. -/
import Derived.Test.YtmmmolbejfdamaaLook
namespace Go.Proofs.Ytmmmolbejfdamaa

theorem found_in (a b : List Ent) (k : Nat) (p n : Bytes) (h : n ∈ found a b k p) : n ∈ differ a b := by
  induction k generalizing p with
  | zero =>
    rw [found] at h
    split at h
    · simp at h
    · exact (List.mem_filter.1 h).1
  | succ k ih =>
    rw [found] at h
    split at h
    · simp at h
    · rcases List.mem_append.1 h with h | h
      · exact ih _ h
      · exact ih _ h
theorem found_le (a b : List Ent) (k : Nat) (p : Bytes) : (found a b k p).length ≤ (differ a b).length * visits a b k p := by
  induction k generalizing p with
  | zero =>
    rw [found, visits, Nat.mul_one]
    split
    · simp
    · exact List.length_filter_le _ _
  | succ k ih =>
    rw [found, visits]
    split
    · simp
    · rw [List.length_append, Nat.mul_add, Nat.mul_add]
      have h1 := ih (p ++ [48])
      have h2 := ih (p ++ [49])
      omega
theorem foundAt_le (a b : List Ent) (p : Bytes) : (foundAt a b p).length ≤ (differ a b).length * visitsAt a b p := found_le a b _ p
theorem foundAt_in (a b : List Ent) (p n : Bytes) (h : n ∈ foundAt a b p) : n ∈ differ a b := found_in a b _ p n h
theorem take_snoc {m : Nat} {l p : Bytes} {c : UInt8} (hm : p.length = m) (h : l.take (m + 1) = p ++ [c]) : l.take m = p := by
  have := congrArg (List.take m) h
  rw [List.take_take, Nat.min_eq_left (Nat.le_succ m), List.take_append_of_le_length (by omega)] at this
  exact this.trans (List.take_of_length_le (by omega))
theorem found_under (a b : List Ent) (k : Nat) (p n : Bytes) (hk : p.length + k = 16) (h : n ∈ found a b k p) : (Bin.of n).take p.length = p := by
  induction k generalizing p with
  | zero =>
    rw [found] at h
    split at h
    · simp at h
    · have := beq_iff_eq.1 (List.mem_filter.1 h).2
      rw [this]
      exact List.take_length
  | succ k ih =>
    rw [found] at h
    split at h
    · simp at h
    · rcases List.mem_append.1 h with h | h
      all_goals
        have := ih _ (by rw [List.length_append, List.length_singleton]; omega) h
        rw [List.length_append, List.length_singleton] at this
        exact take_snoc rfl this
theorem lt_of_take {l r p : Bytes} (hl : l.take (p.length + 1) = p ++ [48]) (hr : r.take (p.length + 1) = p ++ [49]) : l < r := by
  have e1 := List.take_append_drop (p.length + 1) l
  have e2 := List.take_append_drop (p.length + 1) r
  rw [← e1, ← e2, hl, hr]
  generalize List.drop (p.length + 1) l = x
  generalize List.drop (p.length + 1) r = y
  clear e1 e2 hl hr
  induction p with
  | nil => exact List.Lex.rel (by decide)
  | cons c p ih => exact List.Lex.cons ih
theorem found_order (a b : List Ent) (k : Nat) (p : Bytes) (hk : p.length + k = 16) : (found a b k p).Pairwise Bin.R := by
  induction k generalizing p with
  | zero =>
    rw [found]
    split
    · exact List.Pairwise.nil
    · exact (differ_order a b).sublist List.filter_sublist
  | succ k ih =>
    rw [found]
    split
    · exact List.Pairwise.nil
    · have e : ∀ c : UInt8, (p ++ [c]).length + k = 16 := fun c => by rw [List.length_append, List.length_singleton]; omega
      refine List.pairwise_append.2 ⟨ih _ (e 48), ih _ (e 49), fun x hx y hy => ?_⟩
      have h1 := found_under a b k _ x (e 48) hx
      have h2 := found_under a b k _ y (e 49) hy
      rw [List.length_append, List.length_singleton] at h1 h2
      exact (Bin.R_iff x y).2 (.inl (lt_of_take h1 h2))
theorem foundAt_order (a b : List Ent) : (foundAt a b []).Pairwise Bin.R := found_order a b 16 [] rfl
theorem foundAt_srt (a b : List Ent) : Bin.srt (foundAt a b []) = foundAt a b [] :=
  Bin.srt_only (Bin.srt_pairwise _) (foundAt_order a b) fun n => Bin.srt_mem _ n
end Go.Proofs.Ytmmmolbejfdamaa
