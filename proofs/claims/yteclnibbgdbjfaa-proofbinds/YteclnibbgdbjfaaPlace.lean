/- Where a name stands in a book, on plain lists: the place that a walk from the front finds, and what a book with the name set, or without it, is by that place. No program in this text. -/
import Derived.Test.YteclnibbgdbjfaaBook
namespace Go.Proofs.Yteclnibbgdbjfaa

/-- The place that a walk from the front finds, and whether the name is there. -/
def place (n : Bytes) : List Ent → Nat
  | [] => 0
  | x :: es => if x.1 = n then 0 else if Bin.R n x.1 then 0 else place n es + 1
def there (n : Bytes) : List Ent → Bool
  | [] => false
  | x :: es => if x.1 = n then true else if Bin.R n x.1 then false else there n es

theorem place_le (n : Bytes) (es : List Ent) : place n es ≤ es.length := by
  induction es with
  | nil => simp [place]
  | cons x es ih =>
    rw [place]
    split
    · simp
    · split <;> simp [ih]

theorem there_stands (n : Bytes) (es : List Ent) (ho : (es.map (·.1)).Pairwise Bin.R) : there n es = (stands es n).isSome := by
  induction es with
  | nil => simp [there, stands]
  | cons x es ih =>
    rw [List.map_cons, List.pairwise_cons] at ho
    rw [there, stands]
    by_cases h1 : x.1 = n
    · rw [if_pos h1, if_pos h1]; rfl
    · rw [if_neg h1, if_neg h1]
      by_cases h2 : Bin.R n x.1
      · rw [if_pos h2, (stands_none es n).2 fun hm => Bin.R.irrefl n (h2.trans (ho.1 n hm))]; rfl
      · rw [if_neg h2, ih ho.2]

theorem there_get (n : Bytes) (es : List Ent) (ho : (es.map (·.1)).Pairwise Bin.R) (h : there n es = true) :
    ∃ h' : place n es < es.length, (es[place n es]'h').1 = n ∧ stands es n = some (es[place n es]'h').2 := by
  induction es with
  | nil => simp [there] at h
  | cons x es ih =>
    rw [List.map_cons, List.pairwise_cons] at ho
    rw [there] at h
    by_cases h1 : x.1 = n
    · have e : place n (x :: es) = 0 := by rw [place, if_pos h1]
      have h' : place n (x :: es) < (x :: es).length := by rw [e]; simp
      refine ⟨h', ?_⟩
      rw [stands, if_pos h1]
      simp only [e, List.getElem_cons_zero]
      exact ⟨h1, trivial⟩
    · rw [if_neg h1] at h
      by_cases h2 : Bin.R n x.1
      · rw [if_pos h2] at h; cases h
      · rw [if_neg h2] at h
        obtain ⟨k1, k2, k3⟩ := ih ho.2 h
        have e : place n (x :: es) = place n es + 1 := by rw [place, if_neg h1, if_neg h2]
        have h' : place n (x :: es) < (x :: es).length := by rw [e, List.length_cons]; omega
        refine ⟨h', ?_⟩
        rw [stands, if_neg h1]
        simp only [e, List.getElem_cons_succ]
        exact ⟨k2, k3⟩

/-- A book with a name set, by the walk. -/
def ins (n v : Bytes) : List Ent → List Ent
  | [] => [(n, v)]
  | x :: es => if x.1 = n then (n, v) :: es else if Bin.R n x.1 then (n, v) :: x :: es else x :: ins n v es

theorem ins_at (n v : Bytes) (es : List Ent) : ins n v es = es.take (place n es) ++ [(n, v)] ++ es.drop (place n es + if there n es = true then 1 else 0) := by
  induction es with
  | nil => simp [ins, place]
  | cons x es ih =>
    rw [ins, place, there]
    by_cases h1 : x.1 = n
    · simp [if_pos h1]
    · by_cases h2 : Bin.R n x.1
      · simp [if_neg h1, if_pos h2]
      · rw [if_neg h1, if_neg h2, if_neg h1, if_neg h2, if_neg h1, if_neg h2, ih, Nat.add_right_comm, List.take_succ_cons, List.drop_succ_cons]
        simp

theorem ins_stands (n v m : Bytes) (es : List Ent) : stands (ins n v es) m = if m = n then some v else stands es m := by
  induction es with
  | nil =>
    rw [ins, stands, stands]
    by_cases h : m = n
    · rw [if_pos h, if_pos h.symm]
    · rw [if_neg h, if_neg (fun e => h e.symm)]
      try simp only [stands]
  | cons x es ih =>
    rw [ins]
    by_cases h : m = n
    · subst h
      rw [if_pos rfl] at ih ⊢
      by_cases h1 : x.1 = m
      · rw [if_pos h1, stands, if_pos rfl]
      · rw [if_neg h1]
        by_cases h2 : Bin.R m x.1
        · rw [if_pos h2, stands, if_pos rfl]
        · rw [if_neg h2, stands, if_neg h1, ih]
    · rw [if_neg h] at ih ⊢
      have h' : ¬ n = m := fun e => h e.symm
      by_cases h1 : x.1 = n
      · rw [if_pos h1, stands, if_neg h', stands, if_neg (by rw [h1]; exact h')]
      · rw [if_neg h1]
        by_cases h2 : Bin.R n x.1
        · rw [if_pos h2, stands, if_neg h']
        · rw [if_neg h2, stands, stands, ih]

theorem ins_mem (n v : Bytes) (es : List Ent) (m : Bytes) (h : m ∈ (ins n v es).map (·.1)) : m = n ∨ m ∈ es.map (·.1) := by
  rcases Classical.em (m = n) with e | e
  · exact .inl e
  · refine .inr ?_
    have h2 : stands (ins n v es) m ≠ none := fun e => (stands_none _ _).1 e h
    rw [ins_stands, if_neg e] at h2
    exact Classical.byContradiction fun k => h2 ((stands_none _ _).2 k)

theorem Bin.R.tri {a b : Bytes} (h : a ≠ b) (k : ¬ Bin.R b a) : Bin.R a b := Bin.bs_lt_of_le_ne (Bin.bs_le_of_not k) fun e => h (Bin.key_inj e)

theorem ins_order (n v : Bytes) (es : List Ent) (ho : (es.map (·.1)).Pairwise Bin.R) : ((ins n v es).map (·.1)).Pairwise Bin.R := by
  induction es with
  | nil => simp [ins]
  | cons x es ih =>
    have ho' := ho
    rw [List.map_cons, List.pairwise_cons] at ho
    rw [ins]
    by_cases h1 : x.1 = n
    · rw [if_pos h1, List.map_cons, List.pairwise_cons]
      exact ⟨fun y hy => by rw [← h1]; exact ho.1 y hy, ho.2⟩
    · rw [if_neg h1]
      by_cases h2 : Bin.R n x.1
      · rw [if_pos h2, List.map_cons, List.pairwise_cons]
        refine ⟨fun y hy => ?_, ho'⟩
        rw [List.map_cons, List.mem_cons] at hy
        rcases hy with rfl | hy
        · exact h2
        · exact h2.trans (ho.1 y hy)
      · rw [if_neg h2, List.map_cons, List.pairwise_cons]
        refine ⟨fun y hy => ?_, ih ho.2⟩
        rcases ins_mem n v es y hy with rfl | hy
        · exact Bin.R.tri h1 h2
        · exact ho.1 y hy

theorem setTo_at (n v : Bytes) (es : List Ent) (ho : (es.map (·.1)).Pairwise Bin.R) : setTo n v es = es.take (place n es) ++ [(n, v)] ++ es.drop (place n es + if there n es = true then 1 else 0) := by
  rw [← ins_at]
  refine book_ext (setTo_order n v es) (ins_order n v es ho) fun m => ?_
  rw [stands_setTo, ins_stands]

theorem without_at (n : Bytes) (es : List Ent) (ho : (es.map (·.1)).Pairwise Bin.R) (h : there n es = true) : without n es = es.take (place n es) ++ es.drop (place n es + 1) := by
  induction es with
  | nil => simp [there] at h
  | cons x es ih =>
    rw [List.map_cons, List.pairwise_cons] at ho
    rw [there] at h
    rw [place]
    by_cases h1 : x.1 = n
    · subst h1
      rw [if_pos rfl, List.take_zero, List.nil_append, Nat.zero_add, List.drop_succ_cons, List.drop_zero]
      have := without_self x.1 es ((stands_none es x.1).2 fun hm => Bin.R.irrefl _ (ho.1 _ hm)) ho.2
      rw [without] at this ⊢
      rw [List.filter_cons, this]
      simp
    · rw [if_neg h1] at h ⊢
      by_cases h2 : Bin.R n x.1
      · rw [if_pos h2] at h; cases h
      · rw [if_neg h2] at h ⊢
        rw [List.take_succ_cons, List.drop_succ_cons, List.cons_append, ← ih ho.2 h, without, without, List.filter_cons, if_pos (by simpa using h1)]
end Go.Proofs.Yteclnibbgdbjfaa
