/- Books on plain lists: what a name stands for, a book without a name, with a name set, the first error; a book is told by what its names stand for. No program in this text. -/
import Derived.Test.YteclnibbgdbjfaaKit
import Derived.Test.YteclnibbgdbjfaaOrder
namespace Go.Proofs.Yteclnibbgdbjfaa

abbrev Ent := Bytes × Bytes
/-- What a name stands for. -/
def stands : List Ent → Bytes → Option Bytes
  | [], _ => none
  | x :: es, n => if x.1 = n then some x.2 else stands es n

/-- A book without a name. -/
def without (n : Bytes) (es : List Ent) : List Ent := es.filter fun x => !(x.1 == n)
theorem without_snoc (n : Bytes) (es : List Ent) (x : Ent) : without n (es ++ [x]) = without n es ++ (if x.1 = n then [] else [x]) := by
  unfold without
  rw [List.filter_append]
  congr 1
  by_cases h : x.1 = n <;> simp [h]
theorem without_le (n : Bytes) (es : List Ent) : (without n es).length ≤ es.length := List.length_filter_le _ _

/-- A book with a name that stands for a value. -/
def setTo (n v : Bytes) (es : List Ent) : List Ent := (Bin.srt (es.map (·.1) ++ [n])).map fun x => (x, if x = n then v else (stands es x).getD [])
theorem setTo_le (n v : Bytes) (es : List Ent) : (setTo n v es).length ≤ es.length + 1 := by
  unfold setTo
  rw [List.length_map]
  refine Nat.le_trans (Bin.srt_le _) ?_
  simp

def badAfter : Option Bytes → Bytes → Bool
  | none, _ => false
  | some y, x => !decide (Bin.R y x)
/-- The first error of the entries behind one that has the name before. -/
def faultFrom : Option Bytes → List Ent → Int
  | _, [] => 0
  | p, x :: es => if Bin.name x.1 = false then 3 else if 20 < x.2.length then 2 else if badAfter p x.1 = true then 3 else faultFrom (some x.1) es
def fault (es : List Ent) : Int := if 24 < es.length then 2 else faultFrom none es
def prevN (es : List Ent) : Nat → Option Bytes
  | 0 => none
  | k + 1 => es[k]?.map (·.1)

/-- A book without fault: at most 24 entries, good names in their order, values of at most 20 bytes. -/
structure Good (es : List Ent) : Prop where
  len : es.length ≤ 24
  name : ∀ x ∈ es, Bin.name x.1 = true
  value : ∀ x ∈ es, x.2.length ≤ 20
  order : (es.map (·.1)).Pairwise Bin.R

theorem faultFrom_ok (p : Option Bytes) (es : List Ent) : faultFrom p es = 0 ↔ (∀ x ∈ es, Bin.name x.1 = true) ∧ (∀ x ∈ es, x.2.length ≤ 20) ∧ (es.map (·.1)).Pairwise Bin.R ∧ ∀ y, p = some y → ∀ x ∈ es, Bin.R y x.1 := by
  induction es generalizing p with
  | nil => simp [faultFrom]
  | cons x es ih =>
    rw [faultFrom]
    cases hn : Bin.name x.1 with
    | false =>
      rw [if_pos rfl]
      refine ⟨fun h => (by simp at h), fun h => ?_⟩
      rw [h.1 x List.mem_cons_self] at hn
      cases hn
    | true =>
      rw [if_neg (by simp)]
      by_cases hv : 20 < x.2.length
      · rw [if_pos hv]
        refine ⟨fun h => (by simp at h), fun h => ?_⟩
        have := h.2.1 x List.mem_cons_self
        omega
      · rw [if_neg hv]
        cases hb : badAfter p x.1 with
        | true =>
          rw [if_pos rfl]
          refine ⟨fun h => (by simp at h), fun h => ?_⟩
          cases p with
          | none => simp [badAfter] at hb
          | some y =>
            have := h.2.2.2 y rfl x List.mem_cons_self
            simp [badAfter, this] at hb
        | false =>
          rw [if_neg (by simp), ih]
          have hy : ∀ y, p = some y → Bin.R y x.1 := by
            rintro y rfl
            simpa [badAfter] using hb
          constructor
          · rintro ⟨h1, h2, h3, h4⟩
            refine ⟨fun z hz => ?_, fun z hz => ?_, ?_, fun y e z hz => ?_⟩
            · rcases List.mem_cons.1 hz with rfl | hz
              · exact hn
              · exact h1 z hz
            · rcases List.mem_cons.1 hz with rfl | hz
              · omega
              · exact h2 z hz
            · rw [List.map_cons, List.pairwise_cons]
              refine ⟨fun z hz => ?_, h3⟩
              obtain ⟨u, hu, rfl⟩ := List.mem_map.1 hz
              exact h4 x.1 rfl u hu
            · rcases List.mem_cons.1 hz with rfl | hz
              · exact hy y e
              · exact (hy y e).trans (h4 x.1 rfl z hz)
          · rintro ⟨h1, h2, h3, h4⟩
            rw [List.map_cons, List.pairwise_cons] at h3
            refine ⟨fun z hz => h1 z (List.mem_cons_of_mem _ hz), fun z hz => h2 z (List.mem_cons_of_mem _ hz), h3.2, fun y e z hz => ?_⟩
            injection e with e
            subst e
            exact h3.1 z.1 (List.mem_map.2 ⟨z, hz, rfl⟩)
theorem fault_ok (es : List Ent) : fault es = 0 ↔ Good es := by
  unfold fault
  by_cases h : 24 < es.length
  · rw [if_pos h]
    refine ⟨fun h => (by simp at h), fun g => ?_⟩
    have := g.len
    omega
  · rw [if_neg h, faultFrom_ok]
    exact ⟨fun ⟨h1, h2, h3, _⟩ => ⟨by omega, h1, h2, h3⟩, fun g => ⟨g.name, g.value, g.order, fun y e => by cases e⟩⟩

theorem stands_none (es : List Ent) (n : Bytes) : stands es n = none ↔ n ∉ es.map (·.1) := by
  induction es with
  | nil => simp [stands]
  | cons x es ih =>
    rw [stands]
    by_cases h : x.1 = n
    · rw [if_pos h]
      simp [h]
    · rw [if_neg h, ih, List.map_cons, List.mem_cons]
      constructor
      · rintro k (rfl | k')
        · exact h rfl
        · exact k k'
      · intro k k'
        exact k (.inr k')
theorem stands_mem {es : List Ent} {n v : Bytes} (h : stands es n = some v) : (n, v) ∈ es := by
  induction es with
  | nil => simp [stands] at h
  | cons x es ih =>
    rw [stands] at h
    by_cases e : x.1 = n
    · rw [if_pos e] at h
      injection h with h
      subst e; subst h
      exact List.mem_cons_self
    · rw [if_neg e] at h
      exact List.mem_cons_of_mem _ (ih h)
theorem stands_of_mem {es : List Ent} (ho : (es.map (·.1)).Pairwise Bin.R) {n v : Bytes} (h : (n, v) ∈ es) : stands es n = some v := by
  induction es with
  | nil => simp at h
  | cons x es ih =>
    rw [List.map_cons, List.pairwise_cons] at ho
    rw [stands]
    rcases List.mem_cons.1 h with rfl | h
    · rw [if_pos rfl]
    · rw [if_neg, ih ho.2 h]
      rintro rfl
      exact Bin.R.irrefl _ (ho.1 _ (List.mem_map.2 ⟨_, h, rfl⟩))
/-- A book is told by what its names stand for. -/
theorem book_ext {a b : List Ent} (ha : (a.map (·.1)).Pairwise Bin.R) (hb : (b.map (·.1)).Pairwise Bin.R) (h : ∀ n, stands a n = stands b n) : a = b := by
  have hk : a.map (·.1) = b.map (·.1) := Bin.srt_only ha hb fun n => by
    have h1 := stands_none a n
    have h2 := stands_none b n
    rw [h n] at h1
    rw [← Decidable.not_iff_not]
    exact h1.symm.trans h2
  have hl : a.length = b.length := by have := congrArg List.length hk; simpa using this
  apply List.ext_getElem hl
  intro i h1 h2
  have e1 : a[i].1 = b[i].1 := by
    have := List.getElem_of_eq hk (i := i) (by simpa using h1)
    simpa using this
  have s1 := stands_of_mem ha (n := a[i].1) (v := a[i].2) (List.getElem_mem h1)
  have s2 := stands_of_mem hb (n := b[i].1) (v := b[i].2) (List.getElem_mem h2)
  rw [h, e1, s2] at s1
  injection s1 with s1
  exact Prod.ext e1 s1.symm

theorem stands_without (n m : Bytes) (es : List Ent) : stands (without n es) m = if m = n then none else stands es m := by
  induction es with
  | nil => simp [without, stands]
  | cons x es ih =>
    have e : without n (x :: es) = if x.1 = n then without n es else x :: without n es := by
      unfold without
      rw [List.filter_cons]
      by_cases h : x.1 = n <;> simp [h]
    rw [e, stands]
    by_cases h : x.1 = n
    · rw [if_pos h, ih]
      by_cases k : m = n
      · rw [if_pos k, if_pos k]
      · rw [if_neg k, if_neg k, if_neg (fun e => k (e.symm.trans h))]
    · rw [if_neg h, stands, ih]
      by_cases k : m = n
      · rw [if_pos k, if_neg (fun e => h (e.trans k))]
        rw [if_pos k]
      · rw [if_neg k, if_neg k]
theorem without_order {es : List Ent} (n : Bytes) (h : (es.map (·.1)).Pairwise Bin.R) : ((without n es).map (·.1)).Pairwise Bin.R :=
  h.sublist (List.Sublist.map _ List.filter_sublist)
theorem without_good {es : List Ent} (n : Bytes) (h : Good es) : Good (without n es) :=
  ⟨Nat.le_trans (without_le n es) h.len, fun x hx => h.name x (List.mem_filter.1 hx).1, fun x hx => h.value x (List.mem_filter.1 hx).1, without_order n h.order⟩

theorem setTo_names (n v : Bytes) (es : List Ent) : (setTo n v es).map (·.1) = Bin.srt (es.map (·.1) ++ [n]) := by
  unfold setTo
  rw [List.map_map]
  exact List.map_id _
theorem setTo_order (n v : Bytes) (es : List Ent) : ((setTo n v es).map (·.1)).Pairwise Bin.R := by
  rw [setTo_names]
  exact Bin.srt_pairwise _
theorem stands_map (f : Bytes → Bytes) (l : List Bytes) (m : Bytes) : stands (l.map fun x => (x, f x)) m = if m ∈ l then some (f m) else none := by
  induction l with
  | nil => simp [stands]
  | cons x l ih =>
    rw [List.map_cons, stands, ih]
    by_cases h : x = m
    · subst h
      simp
    · rw [if_neg h]
      have : m ∈ x :: l ↔ m ∈ l := by
        rw [List.mem_cons]
        exact ⟨fun k => k.elim (fun e => absurd e.symm h) id, .inr⟩
      simp only [this]
theorem stands_setTo (n v m : Bytes) (es : List Ent) : stands (setTo n v es) m = if m = n then some v else stands es m := by
  unfold setTo
  rw [stands_map (fun x => if x = n then v else (stands es x).getD [])]
  by_cases h : m = n
  · rw [if_pos h, if_pos ((Bin.srt_mem _ _).2 (by simp [h])), if_pos h]
  · rw [if_neg h, if_neg h]
    cases hs : stands es m with
    | none =>
      rw [if_neg]
      rw [Bin.srt_mem, List.mem_append, List.mem_singleton]
      rintro (k | k)
      · exact (stands_none es m).1 hs k
      · exact h k
    | some u =>
      rw [if_pos]
      · rfl
      · rw [Bin.srt_mem, List.mem_append]
        exact .inl (List.mem_map.2 ⟨_, stands_mem hs, rfl⟩)
theorem setTo_length (n v : Bytes) (es : List Ent) (ho : (es.map (·.1)).Pairwise Bin.R) : (setTo n v es).length = if (stands es n).isSome then es.length else es.length + 1 := by
  have hl : (setTo n v es).length = (Bin.srt (es.map (·.1) ++ [n])).length := by rw [← setTo_names n v es, List.length_map]
  rw [hl]
  cases hs : stands es n with
  | some u =>
    have e : Bin.srt (es.map (·.1) ++ [n]) = es.map (·.1) := Bin.srt_only (Bin.srt_pairwise _) ho fun x => by
      rw [Bin.srt_mem, List.mem_append, List.mem_singleton]
      exact ⟨fun h => h.elim id fun h => h ▸ List.mem_map.2 ⟨_, stands_mem hs, rfl⟩, .inl⟩
    rw [e, List.length_map]
    rfl
  | none =>
    have hn := (stands_none es n).1 hs
    have e := book_ext (a := without n (setTo n v es)) (b := es) (without_order n (setTo_order n v es)) ho fun m => by
      rw [stands_without, stands_setTo]
      by_cases h : m = n
      · rw [if_pos h, h, hs]
      · rw [if_neg h, if_neg h]
    have hw : (without n (setTo n v es)).length + 1 = (setTo n v es).length := by
      have hc : ∀ l : List Ent, (l.map (·.1)).Pairwise Bin.R → n ∈ l.map (·.1) → (without n l).length + 1 = l.length := by
        intro l
        induction l with
        | nil => intro _ h; simp at h
        | cons x l ih =>
          intro hp hm
          rw [List.map_cons, List.pairwise_cons] at hp
          have e : without n (x :: l) = if x.1 = n then without n l else x :: without n l := by
            unfold without
            rw [List.filter_cons]
            by_cases h : x.1 = n <;> simp [h]
          rw [e]
          by_cases h : x.1 = n
          · rw [if_pos h]
            have : without n l = l := by
              unfold without
              rw [List.filter_eq_self]
              intro y hy
              have hr := hp.1 y.1 (List.mem_map.2 ⟨y, hy, rfl⟩)
              rw [h] at hr
              simp only [Bool.not_eq_true', beq_eq_false_iff_ne]
              rintro e
              rw [e] at hr
              exact Bin.R.irrefl _ hr
            rw [this, List.length_cons]
          · rw [if_neg h, List.length_cons, List.length_cons, ih hp.2]
            rcases List.mem_cons.1 hm with k | k
            · exact absurd k.symm h
            · exact k
      refine hc _ (setTo_order n v es) ?_
      rw [setTo_names, Bin.srt_mem]
      simp
    rw [← hl, ← hw, e]
    rfl
theorem setTo_good (n v : Bytes) (es : List Ent) (h : Good es) (hn : Bin.name n = true) (hv : v.length ≤ 20) (hl : (stands es n).isSome = true ∨ es.length < 24) : Good (setTo n v es) := by
  have hlen := setTo_length n v es h.order
  refine ⟨?_, fun x hx => ?_, fun x hx => ?_, setTo_order n v es⟩
  · rw [hlen]
    have := h.len
    rcases hl with k | k
    · rw [if_pos k]; exact this
    · split <;> omega
  · have hx' : x.1 ∈ (setTo n v es).map (·.1) := List.mem_map.2 ⟨x, hx, rfl⟩
    rw [setTo_names, Bin.srt_mem, List.mem_append, List.mem_singleton] at hx'
    rcases hx' with k | k
    · obtain ⟨y, hy, e⟩ := List.mem_map.1 k
      rw [← e]
      exact h.name y hy
    · rw [k]; exact hn
  · have hs := stands_of_mem (setTo_order n v es) (n := x.1) (v := x.2) hx
    rw [stands_setTo] at hs
    by_cases k : x.1 = n
    · rw [if_pos k] at hs
      injection hs with hs
      rw [← hs]
      exact hv
    · rw [if_neg k] at hs
      exact h.value _ (stands_mem hs)
theorem setTo_comm (a b u v : Bytes) (es : List Ent) (h : a ≠ b) : setTo b v (setTo a u es) = setTo a u (setTo b v es) :=
  book_ext (setTo_order _ _ _) (setTo_order _ _ _) fun m => by
    simp only [stands_setTo]
    by_cases h1 : m = a
    · by_cases h2 : m = b
      · exact absurd (h1.symm.trans h2) h
      · rw [if_neg h2, if_pos h1, if_pos h1]
    · by_cases h2 : m = b
      · rw [if_pos h2, if_neg h1, if_pos h2]
      · rw [if_neg h2, if_neg h1, if_neg h1, if_neg h2]
theorem without_setTo (n v : Bytes) (es : List Ent) (h : (es.map (·.1)).Pairwise Bin.R) : without n (setTo n v es) = without n es :=
  book_ext (without_order n (setTo_order _ _ _)) (without_order n h) fun m => by
    rw [stands_without, stands_without, stands_setTo]
    by_cases k : m = n
    · rw [if_pos k, if_pos k]
    · rw [if_neg k, if_neg k, if_neg k]
theorem without_self (n : Bytes) (es : List Ent) (h : stands es n = none) (ho : (es.map (·.1)).Pairwise Bin.R) : without n es = es :=
  book_ext (without_order n ho) ho fun m => by
    rw [stands_without]
    by_cases k : m = n
    · rw [if_pos k, k, h]
    · rw [if_neg k]
end Go.Proofs.Yteclnibbgdbjfaa
