/- Books on plain lists: what a name stands for, a book without a name, with a name set, the first error; a book is told by what its names stand for. No program in this text. -/
import Derived.Test.YtjcockcilkiggaaGreatJ01
import Derived.Test.YtjcockcilkiggaaGreatJ03
namespace Go.Proofs.YtjcockcilkiggaaGreat

abbrev Ent := Bytes × Bytes
/-- What a name stands for. -/
def stands : List Ent → Bytes → Option Bytes
  | [], _ => none
  | x :: es, n => if x.1 = n then some x.2 else stands es n

/-- A book without a name. -/
def without (n : Bytes) (es : List Ent) : List Ent := es.filter fun x => !(x.1 == n)
theorem without_snoc (n : Bytes) (es : List Ent) (x : Ent) : without n (es ++ [x]) = without n es ++ (if x.1 = n then [] else [x]) := by
  unfold without
  rw [List.filter_append]
  congr 1
  by_cases h : x.1 = n <;> simp [h]
theorem without_le (n : Bytes) (es : List Ent) : (without n es).length ≤ es.length := List.length_filter_le _ _

/-- A book with a name that stands for a value. -/
def setTo (n v : Bytes) (es : List Ent) : List Ent := (Bin.srt (es.map (·.1) ++ [n])).map fun x => (x, if x = n then v else (stands es x).getD [])
theorem setTo_le (n v : Bytes) (es : List Ent) : (setTo n v es).length ≤ es.length + 1 := by
  unfold setTo
  rw [List.length_map]
  refine Nat.le_trans (Bin.srt_le _) ?_
  simp

def badAfter : Option Bytes → Bytes → Bool
  | none, _ => false
  | some y, x => !decide (Bin.R y x)
/-- The first error of the entries behind one that has the name before. -/
def faultFrom : Option Bytes → List Ent → Int
  | _, [] => 0
  | p, x :: es => if Bin.name x.1 = false then 3 else if 20 < x.2.length then 2 else if badAfter p x.1 = true then 3 else faultFrom (some x.1) es
def fault (es : List Ent) : Int := if 24 < es.length then 2 else faultFrom none es
def prevN (es : List Ent) : Nat → Option Bytes
  | 0 => none
  | k + 1 => es[k]?.map (·.1)

/-- A book without fault: at most 24 entries, good names in their order, values of at most 20 bytes. -/
structure Good (es : List Ent) : Prop where
  len : es.length ≤ 24
  name : ∀ x ∈ es, Bin.name x.1 = true
  value : ∀ x ∈ es, x.2.length ≤ 20
  order : (es.map (·.1)).Pairwise Bin.R

theorem faultFrom_ok (p : Option Bytes) (es : List Ent) : faultFrom p es = 0 ↔ (∀ x ∈ es, Bin.name x.1 = true) ∧ (∀ x ∈ es, x.2.length ≤ 20) ∧ (es.map (·.1)).Pairwise Bin.R ∧ ∀ y, p = some y → ∀ x ∈ es, Bin.R y x.1 := by
  induction es generalizing p with
  | nil => simp [faultFrom]
  | cons x es ih =>
    rw [faultFrom]
    cases hn : Bin.name x.1 with
    | false =>
      rw [if_pos rfl]
      refine ⟨fun h => (by simp at h), fun h => ?_⟩
      rw [h.1 x List.mem_cons_self] at hn
      cases hn
    | true =>
      rw [if_neg (by simp)]
      by_cases hv : 20 < x.2.length
      · rw [if_pos hv]
        refine ⟨fun h => (by simp at h), fun h => ?_⟩
        have := h.2.1 x List.mem_cons_self
        omega
      · rw [if_neg hv]
        cases hb : badAfter p x.1 with
        | true =>
          rw [if_pos rfl]
          refine ⟨fun h => (by simp at h), fun h => ?_⟩
          cases p with
          | none => simp [badAfter] at hb
          | some y =>
            have := h.2.2.2 y rfl x List.mem_cons_self
            simp [badAfter, this] at hb
        | false =>
          rw [if_neg (by simp), ih]
          have hy : ∀ y, p = some y → Bin.R y x.1 := by
            rintro y rfl
            simpa [badAfter] using hb
          constructor
          · rintro ⟨h1, h2, h3, h4⟩
            refine ⟨fun z hz => ?_, fun z hz => ?_, ?_, fun y e z hz => ?_⟩
            · rcases List.mem_cons.1 hz with rfl | hz
              · exact hn
              · exact h1 z hz
            · rcases List.mem_cons.1 hz with rfl | hz
              · omega
              · exact h2 z hz
            · rw [List.map_cons, List.pairwise_cons]
              refine ⟨fun z hz => ?_, h3⟩
              obtain ⟨u, hu, rfl⟩ := List.mem_map.1 hz
              exact h4 x.1 rfl u hu
            · rcases List.mem_cons.1 hz with rfl | hz
              · exact hy y e
              · exact (hy y e).trans (h4 x.1 rfl z hz)
          · rintro ⟨h1, h2, h3, h4⟩
            rw [List.map_cons, List.pairwise_cons] at h3
            refine ⟨fun z hz => h1 z (List.mem_cons_of_mem _ hz), fun z hz => h2 z (List.mem_cons_of_mem _ hz), h3.2, fun y e z hz => ?_⟩
            injection e with e
            subst e
            exact h3.1 z.1 (List.mem_map.2 ⟨z, hz, rfl⟩)
theorem fault_ok (es : List Ent) : fault es = 0 ↔ Good es := by
  unfold fault
  by_cases h : 24 < es.length
  · rw [if_pos h]
    refine ⟨fun h => (by simp at h), fun g => ?_⟩
    have := g.len
    omega
  · rw [if_neg h, faultFrom_ok]
    exact ⟨fun ⟨h1, h2, h3, _⟩ => ⟨by omega, h1, h2, h3⟩, fun g => ⟨g.name, g.value, g.order, fun y e => by cases e⟩⟩

theorem stands_none (es : List Ent) (n : Bytes) : stands es n = none ↔ n ∉ es.map (·.1) := by
  induction es with
  | nil => simp [stands]
  | cons x es ih =>
    rw [stands]
    by_cases h : x.1 = n
    · rw [if_pos h]
      simp [h]
    · rw [if_neg h, ih, List.map_cons, List.mem_cons]
      constructor
      · rintro k (rfl | k')
        · exact h rfl
        · exact k k'
      · intro k k'
        exact k (.inr k')
theorem stands_mem {es : List Ent} {n v : Bytes} (h : stands es n = some v) : (n, v) ∈ es := by
  induction es with
  | nil => simp [stands] at h
  | cons x es ih =>
    rw [stands] at h
    by_cases e : x.1 = n
    · rw [if_pos e] at h
      injection h with h
      subst e; subst h
      exact List.mem_cons_self
    · rw [if_neg e] at h
      exact List.mem_cons_of_mem _ (ih h)
theorem stands_of_mem {es : List Ent} (ho : (es.map (·.1)).Pairwise Bin.R) {n v : Bytes} (h : (n, v) ∈ es) : stands es n = some v := by
  induction es with
  | nil => simp at h
  | cons x es ih =>
    rw [List.map_cons, List.pairwise_cons] at ho
    rw [stands]
    rcases List.mem_cons.1 h with rfl | h
    · rw [if_pos rfl]
    · rw [if_neg, ih ho.2 h]
      rintro rfl
      exact Bin.R.irrefl _ (ho.1 _ (List.mem_map.2 ⟨_, h, rfl⟩))
/-- A book is told by what its names stand for. -/
theorem book_ext {a b : List Ent} (ha : (a.map (·.1)).Pairwise Bin.R) (hb : (b.map (·.1)).Pairwise Bin.R) (h : ∀ n, stands a n = stands b n) : a = b := by
  have hk : a.map (·.1) = b.map (·.1) := Bin.srt_only ha hb fun n => by
    have h1 := stands_none a n
    have h2 := stands_none b n
    rw [h n] at h1
    rw [← Decidable.not_iff_not]
    exact h1.symm.trans h2
  have hl : a.length = b.length := by have := congrArg List.length hk; simpa using this
  apply List.ext_getElem hl
  intro i h1 h2
  have e1 : a[i].1 = b[i].1 := by
    have := List.getElem_of_eq hk (i := i) (by simpa using h1)
    simpa using this
  have s1 := stands_of_mem ha (n := a[i].1) (v := a[i].2) (List.getElem_mem h1)
  have s2 := stands_of_mem hb (n := b[i].1) (v := b[i].2) (List.getElem_mem h2)
  rw [h, e1, s2] at s1
  injection s1 with s1
  exact Prod.ext e1 s1.symm

theorem stands_without (n m : Bytes) (es : List Ent) : stands (without n es) m = if m = n then none else stands es m := by
  induction es with
  | nil => simp [without, stands]
  | cons x es ih =>
    have e : without n (x :: es) = if x.1 = n then without n es else x :: without n es := by
      unfold without
      rw [List.filter_cons]
      by_cases h : x.1 = n <;> simp [h]
    rw [e, stands]
    by_cases h : x.1 = n
    · rw [if_pos h, ih]
      by_cases k : m = n
      · rw [if_pos k, if_pos k]
      · rw [if_neg k, if_neg k, if_neg (fun e => k (e.symm.trans h))]
    · rw [if_neg h, stands, ih]
      by_cases k : m = n
      · rw [if_pos k, if_neg (fun e => h (e.trans k))]
        rw [if_pos k]
      · rw [if_neg k, if_neg k]
theorem without_order {es : List Ent} (n : Bytes) (h : (es.map (·.1)).Pairwise Bin.R) : ((without n es).map (·.1)).Pairwise Bin.R :=
  h.sublist (List.Sublist.map _ List.filter_sublist)
theorem without_good {es : List Ent} (n : Bytes) (h : Good es) : Good (without n es) :=
  ⟨Nat.le_trans (without_le n es) h.len, fun x hx => h.name x (List.mem_filter.1 hx).1, fun x hx => h.value x (List.mem_filter.1 hx).1, without_order n h.order⟩

theorem setTo_names (n v : Bytes) (es : List Ent) : (setTo n v es).map (·.1) = Bin.srt (es.map (·.1) ++ [n]) := by
  unfold setTo
  rw [List.map_map]
  exact List.map_id _
theorem setTo_order (n v : Bytes) (es : List Ent) : ((setTo n v es).map (·.1)).Pairwise Bin.R := by
  rw [setTo_names]
  exact Bin.srt_pairwise _
theorem stands_map (f : Bytes → Bytes) (l : List Bytes) (m : Bytes) : stands (l.map fun x => (x, f x)) m = if m ∈ l then some (f m) else none := by
  induction l with
  | nil => simp [stands]
  | cons x l ih =>
    rw [List.map_cons, stands, ih]
    by_cases h : x = m
    · subst h
      simp
    · rw [if_neg h]
      have : m ∈ x :: l ↔ m ∈ l := by
        rw [List.mem_cons]
        exact ⟨fun k => k.elim (fun e => absurd e.symm h) id, .inr⟩
      simp only [this]
theorem stands_setTo (n v m : Bytes) (es : List Ent) : stands (setTo n v es) m = if m = n then some v else stands es m := by
  unfold setTo
  rw [stands_map (fun x => if x = n then v else (stands es x).getD [])]
  by_cases h : m = n
  · rw [if_pos h, if_pos ((Bin.srt_mem _ _).2 (by simp [h])), if_pos h]
  · rw [if_neg h, if_neg h]
    cases hs : stands es m with
    | none =>
      rw [if_neg]
      rw [Bin.srt_mem, List.mem_append, List.mem_singleton]
      rintro (k | k)
      · exact (stands_none es m).1 hs k
      · exact h k
    | some u =>
      rw [if_pos]
      · rfl
      · rw [Bin.srt_mem, List.mem_append]
        exact .inl (List.mem_map.2 ⟨_, stands_mem hs, rfl⟩)
theorem setTo_length (n v : Bytes) (es : List Ent) (ho : (es.map (·.1)).Pairwise Bin.R) : (setTo n v es).length = if (stands es n).isSome then es.length else es.length + 1 := by
  have hl : (setTo n v es).length = (Bin.srt (es.map (·.1) ++ [n])).length := by rw [← setTo_names n v es, List.length_map]
  rw [hl]
  cases hs : stands es n with
  | some u =>
    have e : Bin.srt (es.map (·.1) ++ [n]) = es.map (·.1) := Bin.srt_only (Bin.srt_pairwise _) ho fun x => by
      rw [Bin.srt_mem, List.mem_append, List.mem_singleton]
      exact ⟨fun h => h.elim id fun h => h ▸ List.mem_map.2 ⟨_, stands_mem hs, rfl⟩, .inl⟩
    rw [e, List.length_map]
    rfl
  | none =>
    have hn := (stands_none es n).1 hs
    have e := book_ext (a := without n (setTo n v es)) (b := es) (without_order n (setTo_order n v es)) ho fun m => by
      rw [stands_without, stands_setTo]
      by_cases h : m = n
      · rw [if_pos h, h, hs]
      · rw [if_neg h, if_neg h]
    have hw : (without n (setTo n v es)).length + 1 = (setTo n v es).length := by
      have hc : ∀ l : List Ent, (l.map (·.1)).Pairwise Bin.R → n ∈ l.map (·.1) → (without n l).length + 1 = l.length := by
        intro l
        induction l with
        | nil => intro _ h; simp at h
        | cons x l ih =>
          intro hp hm
          rw [List.map_cons, List.pairwise_cons] at hp
          have e : without n (x :: l) = if x.1 = n then without n l else x :: without n l := by
            unfold without
            rw [List.filter_cons]
            by_cases h : x.1 = n <;> simp [h]
          rw [e]
          by_cases h : x.1 = n
          · rw [if_pos h]
            have : without n l = l := by
              unfold without
              rw [List.filter_eq_self]
              intro y hy
              have hr := hp.1 y.1 (List.mem_map.2 ⟨y, hy, rfl⟩)
              rw [h] at hr
              simp only [Bool.not_eq_true', beq_eq_false_iff_ne]
              rintro e
              rw [e] at hr
              exact Bin.R.irrefl _ hr
            rw [this, List.length_cons]
          · rw [if_neg h, List.length_cons, List.length_cons, ih hp.2]
            rcases List.mem_cons.1 hm with k | k
            · exact absurd k.symm h
            · exact k
      refine hc _ (setTo_order n v es) ?_
      rw [setTo_names, Bin.srt_mem]
      simp
    rw [← hl, ← hw, e]
    rfl
theorem setTo_good (n v : Bytes) (es : List Ent) (h : Good es) (hn : Bin.name n = true) (hv : v.length ≤ 20) (hl : (stands es n).isSome = true ∨ es.length < 24) : Good (setTo n v es) := by
  have hlen := setTo_length n v es h.order
  refine ⟨?_, fun x hx => ?_, fun x hx => ?_, setTo_order n v es⟩
  · rw [hlen]
    have := h.len
    rcases hl with k | k
    · rw [if_pos k]; exact this
    · split <;> omega
  · have hx' : x.1 ∈ (setTo n v es).map (·.1) := List.mem_map.2 ⟨x, hx, rfl⟩
    rw [setTo_names, Bin.srt_mem, List.mem_append, List.mem_singleton] at hx'
    rcases hx' with k | k
    · obtain ⟨y, hy, e⟩ := List.mem_map.1 k
      rw [← e]
      exact h.name y hy
    · rw [k]; exact hn
  · have hs := stands_of_mem (setTo_order n v es) (n := x.1) (v := x.2) hx
    rw [stands_setTo] at hs
    by_cases k : x.1 = n
    · rw [if_pos k] at hs
      injection hs with hs
      rw [← hs]
      exact hv
    · rw [if_neg k] at hs
      exact h.value _ (stands_mem hs)
theorem setTo_comm (a b u v : Bytes) (es : List Ent) (h : a ≠ b) : setTo b v (setTo a u es) = setTo a u (setTo b v es) :=
  book_ext (setTo_order _ _ _) (setTo_order _ _ _) fun m => by
    simp only [stands_setTo]
    by_cases h1 : m = a
    · by_cases h2 : m = b
      · exact absurd (h1.symm.trans h2) h
      · rw [if_neg h2, if_pos h1, if_pos h1]
    · by_cases h2 : m = b
      · rw [if_pos h2, if_neg h1, if_pos h2]
      · rw [if_neg h2, if_neg h1, if_neg h1, if_neg h2]
theorem without_setTo (n v : Bytes) (es : List Ent) (h : (es.map (·.1)).Pairwise Bin.R) : without n (setTo n v es) = without n es :=
  book_ext (without_order n (setTo_order _ _ _)) (without_order n h) fun m => by
    rw [stands_without, stands_without, stands_setTo]
    by_cases k : m = n
    · rw [if_pos k, if_pos k]
    · rw [if_neg k, if_neg k, if_neg k]
theorem without_self (n : Bytes) (es : List Ent) (h : stands es n = none) (ho : (es.map (·.1)).Pairwise Bin.R) : without n es = es :=
  book_ext (without_order n ho) ho fun m => by
    rw [stands_without]
    by_cases k : m = n
    · rw [if_pos k, k, h]
    · rw [if_neg k]
end Go.Proofs.YtjcockcilkiggaaGreat
/- The entries under a prefix, and their paths, on plain lists. No program in this text. -/
namespace Go.Proofs.YtjcockcilkiggaaGreat

/-- Whether p begins with q. -/
def begins (q p : Bytes) : Bool := p.take q.length == q

/-- The entries under a prefix. -/
def und (q : Bytes) (es : List Ent) : List Ent := es.filter fun x => begins q (Bin.of x.1)
def pths (es : List Ent) : List Bytes := es.map fun x => Bin.of x.1
theorem und_snoc (q : Bytes) (es : List Ent) (x : Ent) : und q (es ++ [x]) = und q es ++ if begins q (Bin.of x.1) = true then [x] else [] := by
  unfold und
  rw [List.filter_append, List.filter_cons, List.filter_nil]
theorem und_le (q : Bytes) (es : List Ent) : (und q es).length ≤ es.length := List.length_filter_le _ _
theorem pths_length (es : List Ent) : (pths es).length = es.length := by simp [pths]
theorem pths_snoc (es : List Ent) (x : Ent) : pths (es ++ [x]) = pths es ++ [Bin.of x.1] := by simp [pths]
end Go.Proofs.YtjcockcilkiggaaGreat
/- Where a name stands in a book, on plain lists: the place that a walk from the front finds, and what a book with the name set, or without it, is by that place. No program in this text. -/
namespace Go.Proofs.YtjcockcilkiggaaGreat

/-- The place that a walk from the front finds, and whether the name is there. -/
def place (n : Bytes) : List Ent → Nat
  | [] => 0
  | x :: es => if x.1 = n then 0 else if Bin.R n x.1 then 0 else place n es + 1
def there (n : Bytes) : List Ent → Bool
  | [] => false
  | x :: es => if x.1 = n then true else if Bin.R n x.1 then false else there n es

theorem place_le (n : Bytes) (es : List Ent) : place n es ≤ es.length := by
  induction es with
  | nil => simp [place]
  | cons x es ih =>
    rw [place]
    split
    · simp
    · split <;> simp [ih]

theorem there_stands (n : Bytes) (es : List Ent) (ho : (es.map (·.1)).Pairwise Bin.R) : there n es = (stands es n).isSome := by
  induction es with
  | nil => simp [there, stands]
  | cons x es ih =>
    rw [List.map_cons, List.pairwise_cons] at ho
    rw [there, stands]
    by_cases h1 : x.1 = n
    · rw [if_pos h1, if_pos h1]; rfl
    · rw [if_neg h1, if_neg h1]
      by_cases h2 : Bin.R n x.1
      · rw [if_pos h2, (stands_none es n).2 fun hm => Bin.R.irrefl n (h2.trans (ho.1 n hm))]; rfl
      · rw [if_neg h2, ih ho.2]

theorem there_get (n : Bytes) (es : List Ent) (ho : (es.map (·.1)).Pairwise Bin.R) (h : there n es = true) :
    ∃ h' : place n es < es.length, (es[place n es]'h').1 = n ∧ stands es n = some (es[place n es]'h').2 := by
  induction es with
  | nil => simp [there] at h
  | cons x es ih =>
    rw [List.map_cons, List.pairwise_cons] at ho
    rw [there] at h
    by_cases h1 : x.1 = n
    · have e : place n (x :: es) = 0 := by rw [place, if_pos h1]
      have h' : place n (x :: es) < (x :: es).length := by rw [e]; simp
      refine ⟨h', ?_⟩
      rw [stands, if_pos h1]
      simp only [e, List.getElem_cons_zero]
      exact ⟨h1, trivial⟩
    · rw [if_neg h1] at h
      by_cases h2 : Bin.R n x.1
      · rw [if_pos h2] at h; cases h
      · rw [if_neg h2] at h
        obtain ⟨k1, k2, k3⟩ := ih ho.2 h
        have e : place n (x :: es) = place n es + 1 := by rw [place, if_neg h1, if_neg h2]
        have h' : place n (x :: es) < (x :: es).length := by rw [e, List.length_cons]; omega
        refine ⟨h', ?_⟩
        rw [stands, if_neg h1]
        simp only [e, List.getElem_cons_succ]
        exact ⟨k2, k3⟩

/-- A book with a name set, by the walk. -/
def ins (n v : Bytes) : List Ent → List Ent
  | [] => [(n, v)]
  | x :: es => if x.1 = n then (n, v) :: es else if Bin.R n x.1 then (n, v) :: x :: es else x :: ins n v es

theorem ins_at (n v : Bytes) (es : List Ent) : ins n v es = es.take (place n es) ++ [(n, v)] ++ es.drop (place n es + if there n es = true then 1 else 0) := by
  induction es with
  | nil => simp [ins, place]
  | cons x es ih =>
    rw [ins, place, there]
    by_cases h1 : x.1 = n
    · simp [if_pos h1]
    · by_cases h2 : Bin.R n x.1
      · simp [if_neg h1, if_pos h2]
      · rw [if_neg h1, if_neg h2, if_neg h1, if_neg h2, if_neg h1, if_neg h2, ih, Nat.add_right_comm, List.take_succ_cons, List.drop_succ_cons]
        simp

theorem ins_stands (n v m : Bytes) (es : List Ent) : stands (ins n v es) m = if m = n then some v else stands es m := by
  induction es with
  | nil =>
    rw [ins, stands, stands]
    by_cases h : m = n
    · rw [if_pos h, if_pos h.symm]
    · rw [if_neg h, if_neg (fun e => h e.symm)]
      try simp only [stands]
  | cons x es ih =>
    rw [ins]
    by_cases h : m = n
    · subst h
      rw [if_pos rfl] at ih ⊢
      by_cases h1 : x.1 = m
      · rw [if_pos h1, stands, if_pos rfl]
      · rw [if_neg h1]
        by_cases h2 : Bin.R m x.1
        · rw [if_pos h2, stands, if_pos rfl]
        · rw [if_neg h2, stands, if_neg h1, ih]
    · rw [if_neg h] at ih ⊢
      have h' : ¬ n = m := fun e => h e.symm
      by_cases h1 : x.1 = n
      · rw [if_pos h1, stands, if_neg h', stands, if_neg (by rw [h1]; exact h')]
      · rw [if_neg h1]
        by_cases h2 : Bin.R n x.1
        · rw [if_pos h2, stands, if_neg h']
        · rw [if_neg h2, stands, stands, ih]

theorem ins_mem (n v : Bytes) (es : List Ent) (m : Bytes) (h : m ∈ (ins n v es).map (·.1)) : m = n ∨ m ∈ es.map (·.1) := by
  rcases Classical.em (m = n) with e | e
  · exact .inl e
  · refine .inr ?_
    have h2 : stands (ins n v es) m ≠ none := fun e => (stands_none _ _).1 e h
    rw [ins_stands, if_neg e] at h2
    exact Classical.byContradiction fun k => h2 ((stands_none _ _).2 k)

theorem Bin.R.tri {a b : Bytes} (h : a ≠ b) (k : ¬ Bin.R b a) : Bin.R a b := Bin.bs_lt_of_le_ne (Bin.bs_le_of_not k) fun e => h (Bin.key_inj e)

theorem ins_order (n v : Bytes) (es : List Ent) (ho : (es.map (·.1)).Pairwise Bin.R) : ((ins n v es).map (·.1)).Pairwise Bin.R := by
  induction es with
  | nil => simp [ins]
  | cons x es ih =>
    have ho' := ho
    rw [List.map_cons, List.pairwise_cons] at ho
    rw [ins]
    by_cases h1 : x.1 = n
    · rw [if_pos h1, List.map_cons, List.pairwise_cons]
      exact ⟨fun y hy => by rw [← h1]; exact ho.1 y hy, ho.2⟩
    · rw [if_neg h1]
      by_cases h2 : Bin.R n x.1
      · rw [if_pos h2, List.map_cons, List.pairwise_cons]
        refine ⟨fun y hy => ?_, ho'⟩
        rw [List.map_cons, List.mem_cons] at hy
        rcases hy with rfl | hy
        · exact h2
        · exact h2.trans (ho.1 y hy)
      · rw [if_neg h2, List.map_cons, List.pairwise_cons]
        refine ⟨fun y hy => ?_, ih ho.2⟩
        rcases ins_mem n v es y hy with rfl | hy
        · exact Bin.R.tri h1 h2
        · exact ho.1 y hy

theorem setTo_at (n v : Bytes) (es : List Ent) (ho : (es.map (·.1)).Pairwise Bin.R) : setTo n v es = es.take (place n es) ++ [(n, v)] ++ es.drop (place n es + if there n es = true then 1 else 0) := by
  rw [← ins_at]
  refine book_ext (setTo_order n v es) (ins_order n v es ho) fun m => ?_
  rw [stands_setTo, ins_stands]

theorem without_at (n : Bytes) (es : List Ent) (ho : (es.map (·.1)).Pairwise Bin.R) (h : there n es = true) : without n es = es.take (place n es) ++ es.drop (place n es + 1) := by
  induction es with
  | nil => simp [there] at h
  | cons x es ih =>
    rw [List.map_cons, List.pairwise_cons] at ho
    rw [there] at h
    rw [place]
    by_cases h1 : x.1 = n
    · subst h1
      rw [if_pos rfl, List.take_zero, List.nil_append, Nat.zero_add, List.drop_succ_cons, List.drop_zero]
      have := without_self x.1 es ((stands_none es x.1).2 fun hm => Bin.R.irrefl _ (ho.1 _ hm)) ho.2
      rw [without] at this ⊢
      rw [List.filter_cons, this]
      simp
    · rw [if_neg h1] at h ⊢
      by_cases h2 : Bin.R n x.1
      · rw [if_pos h2] at h; cases h
      · rw [if_neg h2] at h ⊢
        rw [List.take_succ_cons, List.drop_succ_cons, List.cons_append, ← ih ho.2 h, without, without, List.filter_cons, if_pos (by simpa using h1)]
end Go.Proofs.YtjcockcilkiggaaGreat
/- Books as lists of names and values in rows of cells. -/
namespace Go.Proofs.YtjcockcilkiggaaGreat
open Go.RowKit

/-- The cells of a list of entries. -/
def encells (es : List Ent) : List Value := es.flatMap fun x => [.string (S x.1), .string (S x.2)]
theorem encells_length (es : List Ent) : (encells es).length = es.length * 2 := by
  induction es with
  | nil => rfl
  | cons x es ih =>
    have e : encells (x :: es) = .string (S x.1) :: .string (S x.2) :: encells es := rfl
    rw [e, List.length_cons, List.length_cons, ih, List.length_cons]
    omega
theorem encells_append (a b : List Ent) : encells (a ++ b) = encells a ++ encells b := by simp [encells]
theorem encells_get (es : List Ent) (k : Nat) (h : k < es.length) : (encells es)[k * 2]? = some (.string (S es[k].1)) ∧ (encells es)[k * 2 + 1]? = some (.string (S es[k].2)) := by
  induction es generalizing k with
  | nil => simp at h
  | cons x es ih =>
    have e : encells (x :: es) = .string (S x.1) :: .string (S x.2) :: encells es := rfl
    rw [e]
    cases k with
    | zero => exact ⟨rfl, rfl⟩
    | succ k =>
      have := ih k (by simpa using h)
      rw [show (k + 1) * 2 = k * 2 + 1 + 1 by omega, show k * 2 + 1 + 1 + 1 = (k * 2 + 1) + 1 + 1 by omega]
      simpa using this
theorem Row.ent {w : World} {A : Option Addr} {es : List Ent} (h : Row w A (encells es)) (k : Nat) (hk : k < es.length) :
    ∃ g off, A = some ⟨g, off, none⟩ ∧ w.cell? ⟨g, off + k * 2, none⟩ = some (.string (S es[k].1)) ∧ w.cell? ⟨g, off + k * 2 + 1, none⟩ = some (.string (S es[k].2)) := by
  obtain ⟨g, off, e, hc⟩ := h (by rw [encells_length]; omega)
  have hg := encells_get es k hk
  have h1 := hc (k * 2) (by rw [encells_length]; omega)
  have h2 := hc (k * 2 + 1) (by rw [encells_length]; omega)
  obtain ⟨l1, e1⟩ := List.getElem?_eq_some_iff.1 hg.1
  obtain ⟨l2, e2⟩ := List.getElem?_eq_some_iff.1 hg.2
  rw [e1] at h1
  rw [e2] at h2
  exact ⟨g, off, e, h1, by rw [Nat.add_assoc]; exact h2⟩

/-- Entries of the call's own row. -/
theorem Row.ownE {w : World} {base : Nat} {e : TypeId} {A : Option Addr} {n c : Nat} {vs : List Value} (h : w.ownsRow base e 2 (.slice A n c) n vs) : Row w A vs := fun h0 => by
  obtain ⟨g, cap, hv, _, _⟩ := h.form (by have := h.1; omega)
  obtain rfl : A = some ⟨g, 0, none⟩ := by injection hv
  refine ⟨g, 0, rfl, fun k hk => ?_⟩
  have := h.cells (g := g) rfl k vs[k] (List.getElem?_eq_getElem hk)
  rwa [Go.WideShapes.add_plain] at this

theorem ent_info : ∃ i, Tryz.prog.info? 51 = some i ∧ i.zero = some (.agg #[.string ⟨#[]⟩, .string ⟨#[]⟩]) ∧ i.size = 2 ∧ i.bytes = 32 := by
  have h : (Tryz.prog.info? 51).map (fun i => (i.zero, i.size, i.bytes)) = some (some (.agg #[.string ⟨#[]⟩, .string ⟨#[]⟩]), 2, 32) := by kernel_rfl
  obtain ⟨i, hi, he⟩ := Option.map_eq_some_iff.1 h
  simp only [Prod.mk.injEq] at he
  exact ⟨i, hi, he.1, he.2.1, he.2.2⟩

section
variable {ops : Array Oper} {rest : List Oper} {o : Oper} {a : Act} {Q : Exit → Act → World → Prop}
/-- Entries behind entries. -/
theorem app_ents (w : World) (hgd : o.guard = none) (s x : Operand) (ho : o.op = .call { callee := .builtin .append, args := #[s, x], argTypes := #[39, 39] })
    (base : Nat) (v : Value) (l : List Ent) (hs : a.eval s = v) (hown : w.ownsRow base 51 2 v l.length (encells l))
    (ad : Addr) (c : Nat) (r : List Ent) (m : Nat) (hm : m = r.length) (hx : a.eval x = .slice (some ad) m c) (hnews : ∀ j u, (encells r)[j]? = some u → w.cell? (ad.add j) = some u)
    (hsmall : (l.length + r.length) * 32 ≤ 140737488355328) (hbase : base ≤ w.heap.size)
    (h : ∀ v' w', w'.ownsRow base 51 2 v' (l ++ r).length (encells (l ++ r)) → w.grownBy w' v.ownBlock → wpList Tryz.prog ops Q rest (a.put o.dst v') w') : wpList Tryz.prog ops Q (o :: rest) a w := by
  obtain ⟨i0, hi, hz0, hz1, hz2⟩ := ent_info
  subst hm
  refine wpList_append_own w hgd s x 39 ho base 51 i0 (.agg #[.string ⟨#[]⟩, .string ⟨#[]⟩]) 2 32 Tryz.underlying39 hi hz0 hz1 hz2 rfl (by decide) v l.length (encells l) hs hown ad r.length c (encells r) hx (by rw [encells_length]) hnews
    (fun u hu => by
      obtain ⟨y, _, hy⟩ := List.mem_flatMap.1 hu
      rcases List.mem_cons.1 hy with rfl | hy
      · rfl
      · rw [List.mem_singleton.1 hy]; rfl) (by unfold maxLen; omega) hsmall hbase ?_
  intro v' w' h1 h2 _
  exact h v' w' (by rw [encells_append, List.length_append]; exact h1) h2
end
theorem ent_one (w : World) (x y : Bytes) (t : TypeId) : ∀ j u, (encells [(x, y)])[j]? = some u → (w.alloc (.cells #[.string (S x), .string (S y)] t)).cell? ((⟨w.heap.size, 0, none⟩ : Addr).add j) = some u := by
  intro j u hu
  rw [Go.WideShapes.add_plain, Nat.zero_add, World.cell?_alloc_new]
  simpa [encells] using hu

set_option maxRecDepth 100000 in
set_option maxHeartbeats 400000 in
theorem refStands (A : Option Addr) (c : Nat) (es : List Ent) (n : Bytes) (w : World) (hm : es.length ≤ maxLen) (hA : Row w A (encells es)) (r : Option Bytes) (hr : stands es n = r) :
    Calls Tryz.prog 63 #[.slice A es.length c, .string (S n)] w fun e w' => e = .returned (.tuple #[.string (S (r.getD [])), .bool r.isSome]) ∧ Below w.heap.size w w' := by
  unfold maxLen at hm
  have HR := Lib.hid hr
  clear hr
  go_enter Tryz.func63, Tryz.ntmps63
  go_wp2
  go_loopw [10] (fun i wr => ∃ k : Nat, k ≤ es.length ∧ i = .int .i64 k ∧ Hid (r = stands (es.drop k) n) ∧ Below w.heap.size w wr) (fun i _ => es.length - (intOf i).toNat)
  case atStart => exact ⟨0, Nat.zero_le _, rfl, HR.out.symm, Below.refl _ _⟩
  case round =>
    obtain ⟨k, hk, rfl, HS, hbl⟩ := hrel
    have hsz := hbl.size
    by_cases hlt : k < es.length
    · obtain ⟨g, off, rfl, h1, h2⟩ := (hA.below hbl).ent k hlt
      have hi0 : (0 : Int) ≤ (k : Int) := by omega
      have hi1 : (k : Int) < (es.length : Int) := by omega
      have HS' : Hid (r = if es[k].1 = n then some es[k].2 else stands (es.drop (k + 1)) n) := by
        show r = _
        rw [HS.out, List.drop_eq_getElem_cons hlt]
        rfl
      clear hA HS
      generalize es[k].1 = a at *
      generalize es[k].2 = b at *
      by_cases he : a = n
      · have hbe : (a == n) = true := by simp [he]
        have HR' : Hid (r = some b) := by
          show r = _
          rw [HS'.out, if_pos he]
        clear he HS'
        go_wp2
        go_ret2
        rw [HR'.out]
        exact ⟨rfl, hbl.alloc hsz _⟩
      · have hbe : (a == n) = false := by simp [he]
        have HR' : Hid (r = stands (es.drop (k + 1)) n) := by
          show r = _
          rw [HS'.out, if_neg he]
        clear he HS'
        go_wp2
        go_roundw
        case rel => exact ⟨k + 1, by omega, by go_num, HR', hbl.alloc hsz _⟩
        case measure => simp [intOf]; omega
    · have HR' : Hid (r = none) := by
        show r = _
        rw [HS.out, List.drop_eq_nil_of_le (by omega)]
        rfl
      go_wp2
      go_ret2
      rw [HR'.out]
      exact ⟨rfl, hbl⟩

/-- A list of entries of the call's own. -/
def EntsGives (T : List Ent) (w : World) (e : Ending) (w' : World) : Prop := ∃ D d, e = .returned (.slice D T.length d) ∧ Row w' D (encells T) ∧ Below w.heap.size w w'
theorem own_shapeE {w : World} {base : Nat} {e : TypeId} {v : Value} {n : Nat} {xs : List Value} (h : w.ownsRow base e 2 v n xs) : ∃ A c, v = .slice A n c := own_shape h
theorem own_belowE {w w' : World} {base n : Nat} {e : TypeId} {v : Value} {xs : List Value} (h : w.ownsRow base e 2 v n xs) (hb : Below w.heap.size w w') : w'.ownsRow base e 2 v n xs :=
  h.kept (row := none) ⟨hb.os, hb.tape, hb.output, hb.size, fun k hk _ => hb.block k hk⟩ (by cases v.ownBlock <;> simp)
end Go.Proofs.YtjcockcilkiggaaGreat
