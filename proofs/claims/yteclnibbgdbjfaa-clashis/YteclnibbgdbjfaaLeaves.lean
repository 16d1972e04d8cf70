/- The hashes of the prefixes of a book, on plain lists; entries grouped by their paths in a map of slices of the call's own. -/
import Derived.Test.YteclnibbgdbjfaaMapS
import Derived.Test.YteclnibbgdbjfaaRefLeaf
import Derived.Test.YteclnibbgdbjfaaBin
import Derived.Test.YteclnibbgdbjfaaOwn
namespace Go.Proofs.Yteclnibbgdbjfaa
open Go.RowKit Go.Maps

/-- The entries of one path. -/
def at16 (es : List Ent) (p : Bytes) : List Ent := es.filter fun x => Bin.of x.1 == p
/-- The hash of a prefix that has k bits to go. -/
def pm (es : List Ent) : Nat → Bytes → Nat
  | 0, p => Hash.of (leafOf (at16 es p))
  | k + 1, p => Hash.of (nodeOf (pm es k (p ++ [48])) (pm es k (p ++ [49])))
def prefMark (es : List Ent) (p : Bytes) : Nat := pm es (16 - p.length) p

theorem pm_lt (es : List Ent) (k : Nat) (p : Bytes) : pm es k p < 2305843009213693951 := by
  cases k with
  | zero => exact Hash.of_lt _
  | succ k => exact Hash.of_lt _
theorem pm_none (es : List Ent) (k : Nat) (p : Bytes) (hk : p.length + k = 16) (h : ∀ x ∈ es, (Bin.of x.1).take p.length ≠ p) : pm es k p = nil0 := by
  induction k generalizing p with
  | zero =>
    have e : at16 es p = [] := by
      unfold at16
      rw [List.filter_eq_nil_iff]
      intro x hx hp
      apply h x hx
      have := Bin.of_length x.1
      rw [beq_iff_eq] at hp
      rw [hp, List.take_length]
    show Hash.of (leafOf (at16 es p)) = nil0
    rw [e]
    rfl
  | succ k ih =>
    have step : ∀ c : UInt8, pm es k (p ++ [c]) = nil0 := fun c => ih _ (by rw [List.length_append, List.length_singleton]; omega) (fun x hx e => h x hx (by
      have := congrArg (List.take p.length) e
      rw [List.length_append, List.length_singleton, List.take_take, Nat.min_eq_left (by omega), List.take_left'] at this
      · exact this
      · rfl))
    show Hash.of (nodeOf (pm es k (p ++ [48])) (pm es k (p ++ [49]))) = nil0
    rw [step, step, nodeOf, if_pos ⟨rfl, rfl⟩]
    rfl
theorem prefMark_none (es : List Ent) (p : Bytes) (hp : p.length ≤ 16) (h : ∀ x ∈ es, (Bin.of x.1).take p.length ≠ p) : prefMark es p = nil0 := pm_none es _ p (by omega) h
theorem prefMark_leaf (es : List Ent) (p : Bytes) (hp : p.length = 16) : prefMark es p = Hash.of (leafOf (at16 es p)) := by
  unfold prefMark
  rw [hp]
  rfl
theorem pm_succ (es : List Ent) (k : Nat) (p : Bytes) : pm es (k + 1) p = Hash.of (nodeOf (pm es k (p ++ [48])) (pm es k (p ++ [49]))) := by
  simp only [pm]
theorem prefMark_node (es : List Ent) (p : Bytes) (hp : p.length < 16) : prefMark es p = Hash.of (nodeOf (prefMark es (p ++ [48])) (prefMark es (p ++ [49]))) := by
  have h := pm_succ es (15 - p.length) p
  have e1 : prefMark es p = pm es (15 - p.length + 1) p := by
    unfold prefMark
    congr 1
    omega
  have e2 : ∀ c : UInt8, prefMark es (p ++ [c]) = pm es (15 - p.length) (p ++ [c]) := by
    intro c
    unfold prefMark
    rw [List.length_append, List.length_singleton]
    congr 1
    omega
  rw [e1, e2, e2]
  exact h

theorem at16_snoc (es : List Ent) (x : Ent) (p : Bytes) : at16 (es ++ [x]) p = at16 es p ++ (if Bin.of x.1 = p then [x] else []) := by
  unfold at16
  rw [List.filter_append, List.filter_cons, List.filter_nil]
  by_cases h : Bin.of x.1 = p
  · rw [if_pos (beq_iff_eq.2 h), if_pos h]
  · rw [if_neg (fun e => h (beq_iff_eq.1 e)), if_neg h]

/-- Each path's entries lie in a row of their own, from block base on. -/
structure Grouped (w : World) (base : Nat) (es : List Ent) (g : Bytes → Option Value) : Prop where
  none_ : ∀ p, g p = none ↔ at16 es p = []
  rows : ∀ p v, g p = some v → w.ownsRow base 54 2 v (at16 es p).length (encells (at16 es p))
  apart : ∀ p q v u, p ≠ q → g p = some v → g q = some u → v.ownBlock ≠ u.ownBlock

theorem Grouped.block {w : World} {base : Nat} {es : List Ent} {g : Bytes → Option Value} (h : Grouped w base es g) {p : Bytes} {v : Value} (hv : g p = some v) : ∃ k, v.ownBlock = some k ∧ base ≤ k ∧ k < w.heap.size := by
  have hr := h.rows p v hv
  have hne : at16 es p ≠ [] := fun e => by rw [(h.none_ p).2 e] at hv; cases hv
  rcases hr.2 with ⟨_, h0⟩ | ⟨k, cap, cur, rfl, _⟩
  · exact absurd (List.eq_nil_of_length_eq_zero h0) hne
  · have := hr.lt k rfl
    exact ⟨k, rfl, this⟩
theorem Grouped.start (w : World) (base : Nat) : Grouped w base [] (fun _ => none) :=
  ⟨fun _ => ⟨fun _ => rfl, fun _ => rfl⟩, fun _ _ h => (by cases h), fun _ _ _ _ _ h => (by cases h)⟩
theorem Grouped.kept {w w' : World} {base : Nat} {es : List Ent} {g : Bytes → Option Value} {row : Option Nat} (h : Grouped w base es g) (hg : w.grownBy w' row) (hr : ∀ p v, g p = some v → v.ownBlock ≠ row) : Grouped w' base es g :=
  ⟨h.none_, fun p v hv => (h.rows p v hv).kept hg (.inr (hr p v hv)), h.apart⟩
theorem Grouped.below {w w' : World} {base : Nat} {es : List Ent} {g : Bytes → Option Value} (h : Grouped w base es g) (hb : Below w.heap.size w w') : Grouped w' base es g :=
  h.kept (grown_below hb none) (fun p v hv e => by obtain ⟨k, hk, _⟩ := h.block hv; rw [hk] at e; cases e)
theorem Grouped.low {w w' : World} {base b : Nat} {es : List Ent} {g : Bytes → Option Value} (h : Grouped w base es g) (hg : w.grownBy w' (some b)) (hb : b < base) : Grouped w' base es g :=
  h.kept hg (fun p v hv e => by obtain ⟨k, hk, hk', _⟩ := h.block hv; rw [hk] at e; injection e with e; omega)
/-- What is at a path, nil where there is nothing. -/
theorem Grouped.at {w : World} {base : Nat} {es : List Ent} {g : Bytes → Option Value} (h : Grouped w base es g) (p : Bytes) : w.ownsRow base 54 2 ((g p).getD (.slice none 0 0)) (at16 es p).length (encells (at16 es p)) := by
  cases hg : g p with
  | none =>
    rw [(h.none_ p).1 hg]
    exact World.ownsRow_nil _ _ _ _
  | some v => exact h.rows p v hg
/-- One entry more at its path. -/
theorem Grouped.step {w w' : World} {base : Nat} {es : List Ent} {g : Bytes → Option Value} (h : Grouped w base es g) (x : Ent) (v' : Value) (n : Nat) (hn : n = (at16 es (Bin.of x.1) ++ [x]).length)
    (hg : w.grownBy w' ((g (Bin.of x.1)).getD (.slice none 0 0)).ownBlock) (hown : w'.ownsRow base 54 2 v' n (encells (at16 es (Bin.of x.1) ++ [x])))
    (hloc : v'.ownBlock = ((g (Bin.of x.1)).getD (.slice none 0 0)).ownBlock ∨ ∃ k, v'.ownBlock = some k ∧ w.heap.size ≤ k) :
    Grouped w' base (es ++ [x]) (fun q => if q = Bin.of x.1 then some v' else g q) := by
  subst hn
  refine ⟨fun p => ?_, fun p v hv => ?_, fun p q v u hpq hv hu => ?_⟩
  · by_cases e : p = Bin.of x.1
    · rw [if_pos e, at16_snoc, if_pos e.symm]
      simp
    · rw [if_neg e, at16_snoc, if_neg (fun h => e h.symm), List.append_nil]
      exact h.none_ p
  · by_cases e : p = Bin.of x.1
    · rw [if_pos e] at hv
      injection hv with hv
      subst hv
      rw [at16_snoc, if_pos e.symm, e]
      exact hown
    · rw [if_neg e] at hv
      rw [at16_snoc, if_neg (fun h => e h.symm), List.append_nil]
      refine (h.rows p v hv).kept hg (.inr ?_)
      cases ho : g (Bin.of x.1) with
      | none =>
        obtain ⟨k, hk, _⟩ := h.block hv
        rw [hk]
        simp [Value.ownBlock]
      | some o => exact h.apart p _ v o e hv ho
  · by_cases e : p = Bin.of x.1
    · rw [if_pos e] at hv
      injection hv with hv
      subst hv
      rw [if_neg (fun h => hpq (e.trans h.symm))] at hu
      obtain ⟨k, hk, _, hk'⟩ := h.block hu
      rcases hloc with hl | ⟨j, hj, hj'⟩
      · rw [hl]
        cases ho : g (Bin.of x.1) with
        | none =>
          rw [hk]
          simp [Value.ownBlock]
        | some o => exact h.apart _ q o u (fun h => hpq (e.trans h)) ho hu
      · rw [hj, hk]
        intro h
        injection h with h
        omega
    · rw [if_neg e] at hv
      by_cases e2 : q = Bin.of x.1
      · rw [if_pos e2] at hu
        injection hu with hu
        subst hu
        obtain ⟨k, hk, _, hk'⟩ := h.block hv
        rcases hloc with hl | ⟨j, hj, hj'⟩
        · rw [hl]
          cases ho : g (Bin.of x.1) with
          | none =>
            rw [hk]
            simp [Value.ownBlock]
          | some o => exact h.apart p _ v o e hv ho
        · rw [hj, hk]
          intro h
          injection h with h
          omega
      · rw [if_neg e2] at hu
        exact h.apart p q v u hpq hv hu
end Go.Proofs.Yteclnibbgdbjfaa
