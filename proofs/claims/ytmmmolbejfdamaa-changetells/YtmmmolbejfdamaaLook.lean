/- The search for differences by the hashes of prefixes, on plain lists: how many prefixes are examined, and which names are found; whatever order they are examined in. No program in this text. -/
import Derived.Test.YtmmmolbejfdamaaLeaves
import Derived.Test.YtmmmolbejfdamaaDiffer
namespace Go.Proofs.Ytmmmolbejfdamaa

def visits (a b : List Ent) : Nat → Bytes → Nat
  | 0, _ => 1
  | k + 1, p => if prefMark a p = prefMark b p then 1 else 1 + (visits a b k (p ++ [48]) + visits a b k (p ++ [49]))
def found (a b : List Ent) : Nat → Bytes → List Bytes
  | 0, p => if prefMark a p = prefMark b p then [] else (differ a b).filter fun n => Bin.of n == p
  | k + 1, p => if prefMark a p = prefMark b p then [] else found a b k (p ++ [48]) ++ found a b k (p ++ [49])
theorem visits_pos (a b : List Ent) (k : Nat) (p : Bytes) : 1 ≤ visits a b k p := by
  cases k with
  | zero => exact Nat.le_refl _
  | succ k => rw [visits]; split <;> omega
theorem visits_le (a b : List Ent) (k : Nat) (p : Bytes) : visits a b k p + 1 ≤ 2 ^ (k + 1) := by
  induction k generalizing p with
  | zero => exact Nat.le_refl _
  | succ k ih =>
    rw [visits]
    have h1 := ih (p ++ [48])
    have h2 := ih (p ++ [49])
    have h3 : 2 ^ (k + 1 + 1) = 2 * 2 ^ (k + 1) := by rw [Nat.pow_succ]; omega
    split <;> omega
/-- At a prefix, by how long it is. -/
def visitsAt (a b : List Ent) (p : Bytes) : Nat := visits a b (16 - p.length) p
def foundAt (a b : List Ent) (p : Bytes) : List Bytes := found a b (16 - p.length) p
theorem visitsAt_same (a b : List Ent) (p : Bytes) (h : prefMark a p = prefMark b p) : visitsAt a b p = 1 ∧ foundAt a b p = [] := by
  unfold visitsAt foundAt
  cases hk : 16 - p.length with
  | zero => rw [visits, found, if_pos h]; exact ⟨rfl, rfl⟩
  | succ k => rw [visits, found, if_pos h, if_pos h]; exact ⟨rfl, rfl⟩
theorem visitsAt_deep (a b : List Ent) (p : Bytes) (h : ¬ prefMark a p = prefMark b p) (hl : p.length = 16) : visitsAt a b p = 1 ∧ foundAt a b p = (differ a b).filter fun n => Bin.of n == p := by
  unfold visitsAt foundAt
  rw [hl, Nat.sub_self, visits, found, if_neg h]
  exact ⟨rfl, rfl⟩
theorem visitsAt_more (a b : List Ent) (p : Bytes) (h : ¬ prefMark a p = prefMark b p) (hl : p.length < 16) :
    visitsAt a b p = 1 + (visitsAt a b (p ++ [48]) + visitsAt a b (p ++ [49])) ∧ foundAt a b p = foundAt a b (p ++ [48]) ++ foundAt a b (p ++ [49]) := by
  have e : ∀ c : UInt8, 16 - (p ++ [c]).length = 15 - p.length := fun c => by rw [List.length_append, List.length_singleton]; omega
  unfold visitsAt foundAt
  rw [e, e, show 16 - p.length = 15 - p.length + 1 by omega, visits, found, if_neg h, if_neg h]
  exact ⟨rfl, rfl⟩
def tv (a b : List Ent) : List Bytes → Nat
  | [] => 0
  | p :: ps => visitsAt a b p + tv a b ps
theorem tv_snoc2 (a b : List Ent) (ps : List Bytes) (x y : Bytes) : tv a b (ps ++ [x, y]) = tv a b ps + (visitsAt a b x + visitsAt a b y) := by
  induction ps with
  | nil => simp [tv]
  | cons p ps ih => rw [List.cons_append, tv, tv, ih]; omega
/-- What has been found, and what is still to be found, is what there is to find. -/
def Finds (a b : List Ent) (out todo : List Bytes) : Prop := ∀ n, (n ∈ out ∨ ∃ q ∈ todo, n ∈ foundAt a b q) ↔ n ∈ foundAt a b []
theorem Finds.start (a b : List Ent) : Finds a b [] [[]] := fun n => by simp
theorem Finds.same {a b : List Ent} {out todo : List Bytes} {p : Bytes} (h : Finds a b out (p :: todo)) (he : prefMark a p = prefMark b p) : Finds a b out todo := fun n => by
  rw [← h n]
  constructor
  · rintro (h | ⟨q, hq, hn⟩)
    · exact .inl h
    · exact .inr ⟨q, List.mem_cons_of_mem _ hq, hn⟩
  · rintro (h | ⟨q, hq, hn⟩)
    · exact .inl h
    · rcases List.mem_cons.1 hq with rfl | hq
      · rw [(visitsAt_same a b q he).2] at hn
        simp at hn
      · exact .inr ⟨q, hq, hn⟩
theorem Finds.more {a b : List Ent} {out todo : List Bytes} {p : Bytes} (h : Finds a b out (p :: todo)) (he : ¬ prefMark a p = prefMark b p) (hl : p.length < 16) : Finds a b out (todo ++ [p ++ [48], p ++ [49]]) := fun n => by
  rw [← h n]
  have e := (visitsAt_more a b p he hl).2
  constructor
  · rintro (h | ⟨q, hq, hn⟩)
    · exact .inl h
    · rcases List.mem_append.1 hq with hq | hq
      · exact .inr ⟨q, List.mem_cons_of_mem _ hq, hn⟩
      · refine .inr ⟨p, List.mem_cons_self, ?_⟩
        rw [e, List.mem_append]
        rcases List.mem_cons.1 hq with rfl | hq
        · exact .inl hn
        · rw [List.mem_singleton.1 hq] at hn
          exact .inr hn
  · rintro (h | ⟨q, hq, hn⟩)
    · exact .inl h
    · rcases List.mem_cons.1 hq with rfl | hq
      · rw [e, List.mem_append] at hn
        rcases hn with hn | hn
        · exact .inr ⟨_, List.mem_append_right _ List.mem_cons_self, hn⟩
        · exact .inr ⟨_, List.mem_append_right _ (List.mem_cons_of_mem _ List.mem_cons_self), hn⟩
      · exact .inr ⟨q, List.mem_append_left _ hq, hn⟩
theorem Finds.deep {a b : List Ent} {out todo : List Bytes} {p : Bytes} (h : Finds a b out (p :: todo)) (he : ¬ prefMark a p = prefMark b p) (hl : p.length = 16) : Finds a b (out ++ (differ a b).filter fun n => Bin.of n == p) todo := fun n => by
  rw [← h n, List.mem_append]
  have e := (visitsAt_deep a b p he hl).2
  constructor
  · rintro ((h | h) | ⟨q, hq, hn⟩)
    · exact .inl h
    · exact .inr ⟨p, List.mem_cons_self, by rw [e]; exact h⟩
    · exact .inr ⟨q, List.mem_cons_of_mem _ hq, hn⟩
  · rintro (h | ⟨q, hq, hn⟩)
    · exact .inl (.inl h)
    · rcases List.mem_cons.1 hq with rfl | hq
      · rw [e] at hn
        exact .inl (.inr hn)
      · exact .inr ⟨q, hq, hn⟩
theorem Finds.end_ {a b : List Ent} {out : List Bytes} (h : Finds a b out []) : Bin.srt out = Bin.srt (foundAt a b []) :=
  Bin.srt_only (Bin.srt_pairwise _) (Bin.srt_pairwise _) fun n => by
    rw [Bin.srt_mem, Bin.srt_mem, ← h n]
    simp
end Go.Proofs.Ytmmmolbejfdamaa
/- What a search from the root finds, on plain lists: its names are in order, each lies under the prefix, and there are not too many. No program in this text. -/
namespace Go.Proofs.Ytmmmolbejfdamaa

theorem found_in (a b : List Ent) (k : Nat) (p n : Bytes) (h : n ∈ found a b k p) : n ∈ differ a b := by
  induction k generalizing p with
  | zero =>
    rw [found] at h
    split at h
    · simp at h
    · exact (List.mem_filter.1 h).1
  | succ k ih =>
    rw [found] at h
    split at h
    · simp at h
    · rcases List.mem_append.1 h with h | h
      · exact ih _ h
      · exact ih _ h
theorem found_le (a b : List Ent) (k : Nat) (p : Bytes) : (found a b k p).length ≤ (differ a b).length * visits a b k p := by
  induction k generalizing p with
  | zero =>
    rw [found, visits, Nat.mul_one]
    split
    · simp
    · exact List.length_filter_le _ _
  | succ k ih =>
    rw [found, visits]
    split
    · simp
    · rw [List.length_append, Nat.mul_add, Nat.mul_add]
      have h1 := ih (p ++ [48])
      have h2 := ih (p ++ [49])
      omega
theorem foundAt_le (a b : List Ent) (p : Bytes) : (foundAt a b p).length ≤ (differ a b).length * visitsAt a b p := found_le a b _ p
theorem foundAt_in (a b : List Ent) (p n : Bytes) (h : n ∈ foundAt a b p) : n ∈ differ a b := found_in a b _ p n h
theorem take_snoc {m : Nat} {l p : Bytes} {c : UInt8} (hm : p.length = m) (h : l.take (m + 1) = p ++ [c]) : l.take m = p := by
  have := congrArg (List.take m) h
  rw [List.take_take, Nat.min_eq_left (Nat.le_succ m), List.take_append_of_le_length (by omega)] at this
  exact this.trans (List.take_of_length_le (by omega))
theorem found_under (a b : List Ent) (k : Nat) (p n : Bytes) (hk : p.length + k = 16) (h : n ∈ found a b k p) : (Bin.of n).take p.length = p := by
  induction k generalizing p with
  | zero =>
    rw [found] at h
    split at h
    · simp at h
    · have := beq_iff_eq.1 (List.mem_filter.1 h).2
      rw [this]
      exact List.take_length
  | succ k ih =>
    rw [found] at h
    split at h
    · simp at h
    · rcases List.mem_append.1 h with h | h
      all_goals
        have := ih _ (by rw [List.length_append, List.length_singleton]; omega) h
        rw [List.length_append, List.length_singleton] at this
        exact take_snoc rfl this
theorem lt_of_take {l r p : Bytes} (hl : l.take (p.length + 1) = p ++ [48]) (hr : r.take (p.length + 1) = p ++ [49]) : l < r := by
  have e1 := List.take_append_drop (p.length + 1) l
  have e2 := List.take_append_drop (p.length + 1) r
  rw [← e1, ← e2, hl, hr]
  generalize List.drop (p.length + 1) l = x
  generalize List.drop (p.length + 1) r = y
  clear e1 e2 hl hr
  induction p with
  | nil => exact List.Lex.rel (by decide)
  | cons c p ih => exact List.Lex.cons ih
theorem found_order (a b : List Ent) (k : Nat) (p : Bytes) (hk : p.length + k = 16) : (found a b k p).Pairwise Bin.R := by
  induction k generalizing p with
  | zero =>
    rw [found]
    split
    · exact List.Pairwise.nil
    · exact (differ_order a b).sublist List.filter_sublist
  | succ k ih =>
    rw [found]
    split
    · exact List.Pairwise.nil
    · have e : ∀ c : UInt8, (p ++ [c]).length + k = 16 := fun c => by rw [List.length_append, List.length_singleton]; omega
      refine List.pairwise_append.2 ⟨ih _ (e 48), ih _ (e 49), fun x hx y hy => ?_⟩
      have h1 := found_under a b k _ x (e 48) hx
      have h2 := found_under a b k _ y (e 49) hy
      rw [List.length_append, List.length_singleton] at h1 h2
      exact (Bin.R_iff x y).2 (.inl (lt_of_take h1 h2))
theorem foundAt_order (a b : List Ent) : (foundAt a b []).Pairwise Bin.R := found_order a b 16 [] rfl
theorem foundAt_srt (a b : List Ent) : Bin.srt (foundAt a b []) = foundAt a b [] :=
  Bin.srt_only (Bin.srt_pairwise _) (foundAt_order a b) fun n => Bin.srt_mem _ n
end Go.Proofs.Ytmmmolbejfdamaa
