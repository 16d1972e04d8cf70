/- Chains of heads on plain lists: the error of a chain and its place, and what a valid chain is. No function of the program in this text. -/
import Derived.Test.YthkhafgcpmoalaaHeadNexts
namespace Go.Proofs.Ythkhafgcpmoalaa
set_option maxRecDepth 100000
open Go.RowKit

theorem links_iff (h g : Hd) : links h g = true ↔ HGood h ∧ HGood g ∧ g.1 = h.1 + 1 ∧ g.2.2.1 = hmark h ∧ h.2.2.2 ≤ g.2.2.2 := by
  unfold links
  rw [Bool.and_eq_true, Bool.and_eq_true, Bool.and_eq_true, Bool.and_eq_true, decide_eq_true_eq, decide_eq_true_eq, decide_eq_true_eq, decide_eq_true_eq, decide_eq_true_eq, hfault_ok, hfault_ok]
  exact ⟨fun ⟨⟨⟨⟨a, b⟩, c⟩, d⟩, e⟩ => ⟨a, b, c, d, e⟩, fun ⟨a, b, c, d, e⟩ => ⟨⟨⟨⟨a, b⟩, c⟩, d⟩, e⟩⟩
/-- A head links to another just where the other is its successor. -/
theorem links_next (h g : Hd) : links h g = true ↔ NextOk h g.2.1 g.2.2.2 ∧ h.1 + 1 = g.1 ∧ hmark h = g.2.2.1 := by
  rw [links_iff]
  constructor
  · rintro ⟨a, b, c, d, e⟩
    refine ⟨⟨a, ?_, b.r, e, b.t1⟩, c.symm, d.symm⟩
    have := b.e1
    omega
  · rintro ⟨k, c, d⟩
    have hg := nextOf_good k
    have e : nextOf h g.2.1 g.2.2.2 = g := by
      obtain ⟨g1, g2, g3, g4⟩ := g
      dsimp only at c d
      rw [nextOf, c, d]
    rw [e] at hg
    exact ⟨k.g, (hfault_ok _).1 hg, c.symm, d.symm, k.t.1⟩
theorem links_nextOf {h : Hd} {nr : Nat} {at' : Int} (k : NextOk h nr at') : links h (nextOf h nr at') = true :=
  (links_next _ _).2 ⟨k, rfl, rfl⟩

/-- The first head that has an error, and its place. -/
def badAt : List Hd → Nat → Option (Int × Nat)
  | [], _ => none
  | h :: t, i => if hfault h = 0 then badAt t (i + 1) else some (hfault h, i)
/-- The first place whose head is no successor. -/
def unAt : List Hd → Nat → Option Nat
  | [], _ => none
  | [_], _ => none
  | h :: g :: t, i => if links h g = true then unAt (g :: t) (i + 1) else some i
/-- The error of a chain, and its place. -/
def cfault (l : List Hd) : Int × Nat :=
  if l.length = 0 then (5, 0) else if 40 < l.length then (2, 0) else
    match badAt l 0 with
    | some p => p
    | none => match unAt l 1 with
      | some i => (8, i)
      | none => (0, 0)
structure CGood (l : List Hd) : Prop where
  pos : 0 < l.length
  len : l.length ≤ 40
  good : ∀ h ∈ l, HGood h
  link : ∀ i (h : i + 1 < l.length), links l[i] l[i + 1] = true
theorem badAt_none (l : List Hd) (i : Nat) : badAt l i = none ↔ ∀ h ∈ l, HGood h := by
  induction l generalizing i with
  | nil => simp [badAt]
  | cons x l ih =>
    rw [badAt]
    by_cases h : hfault x = 0
    · rw [if_pos h, ih]
      simp only [List.mem_cons, forall_eq_or_imp]
      exact ⟨fun k => ⟨(hfault_ok _).1 h, k⟩, fun k => k.2⟩
    · rw [if_neg h]
      simp only [List.mem_cons, forall_eq_or_imp, reduceCtorEq, false_iff]
      exact fun k => h ((hfault_ok _).2 k.1)
theorem badAt_some (l : List Hd) (i : Nat) (p : Int × Nat) (h : badAt l i = some p) : p.1 ≠ 0 := by
  induction l generalizing i with
  | nil => cases h
  | cons x l ih =>
    rw [badAt] at h
    by_cases k : hfault x = 0
    · rw [if_pos k] at h; exact ih _ h
    · rw [if_neg k] at h
      injection h with h
      rw [← h]
      exact k
theorem unAt_none (l : List Hd) (i : Nat) : unAt l i = none ↔ ∀ j (h : j + 1 < l.length), links l[j] l[j + 1] = true := by
  induction l generalizing i with
  | nil => simp [unAt]
  | cons x l ih =>
    cases l with
    | nil => simp [unAt]
    | cons y l =>
      rw [unAt]
      by_cases h : links x y = true
      · rw [if_pos h, ih]
        constructor
        · intro k j hj
          cases j with
          | zero => exact h
          | succ j => exact k j (by simpa using hj)
        · intro k j hj
          exact k (j + 1) (by simpa using hj)
      · rw [if_neg h]
        simp only [reduceCtorEq, false_iff]
        exact fun k => h (k 0 (by simp))
theorem cfault_ok (l : List Hd) : (cfault l).1 = 0 ↔ CGood l := by
  unfold cfault
  by_cases h0 : l.length = 0
  · rw [if_pos h0]
    exact ⟨fun e => absurd e (by decide), fun k => absurd k.pos (by omega)⟩
  rw [if_neg h0]
  by_cases h1 : 40 < l.length
  · rw [if_pos h1]
    exact ⟨fun e => absurd e (by decide), fun k => absurd k.len (by omega)⟩
  rw [if_neg h1]
  cases hb : badAt l 0 with
  | some p =>
    dsimp only
    refine ⟨fun e => absurd e (badAt_some l 0 p hb), fun k => ?_⟩
    rw [(badAt_none l 0).2 k.good] at hb
    cases hb
  | none =>
    dsimp only
    cases hu : unAt l 1 with
    | some i =>
      dsimp only
      refine ⟨fun e => absurd e (by decide), fun k => ?_⟩
      rw [(unAt_none l 1).2 k.link] at hu
      cases hu
    | none =>
      dsimp only
      exact ⟨fun _ => ⟨by omega, by omega, (badAt_none l 0).1 hb, (unAt_none l 1).1 hu⟩, fun _ => rfl⟩
theorem cfault_zero (l : List Hd) (h : CGood l) : cfault l = (0, 0) := by
  unfold cfault
  rw [if_neg (by have := h.pos; omega), if_neg (by have := h.len; omega), (badAt_none l 0).2 h.good]
  dsimp only
  rw [(unAt_none l 1).2 h.link]

/-- The epochs of a chain have no gaps. -/
theorem CGood.epoch {l : List Hd} (h : CGood l) (i : Nat) (hi : i < l.length) : l[i].1 = (l[0]'h.pos).1 + i := by
  induction i with
  | zero => simp
  | succ i ih =>
    have k := ((links_iff _ _).1 (h.link i hi)).2.2.1
    rw [k, ih (by omega)]
    push_cast
    omega
/-- A part of a chain is a chain. -/
theorem CGood.part {l : List Hd} (h : CGood l) (p n : Nat) (hn : 0 < n) (hp : p + n ≤ l.length) : CGood ((l.drop p).take n) := by
  have hl : ((l.drop p).take n).length = n := by rw [List.length_take, List.length_drop]; omega
  refine ⟨by omega, by have := h.len; omega, fun x hx => h.good x (List.mem_of_mem_drop (List.mem_of_mem_take hx)), fun i hi => ?_⟩
  rw [List.getElem_take, List.getElem_take, List.getElem_drop, List.getElem_drop]
  exact h.link (p + i) (by omega)
/-- A chain with a successor is a chain. -/
theorem CGood.snoc {l : List Hd} (h : CGood l) (g : Hd) (hl : l.length < 40) (hg : links (l[l.length - 1]'(by have := h.pos; omega)) g = true) : CGood (l ++ [g]) := by
  have hp := h.pos
  refine ⟨by simp, by simp; omega, fun x hx => ?_, fun i hi => ?_⟩
  · rcases List.mem_append.1 hx with k | k
    · exact h.good x k
    · rw [List.mem_singleton.1 k]
      exact ((links_iff _ _).1 hg).2.1
  · rw [List.length_append, List.length_singleton] at hi
    by_cases e : i + 1 < l.length
    · rw [List.getElem_append_left (by omega), List.getElem_append_left e]
      exact h.link i e
    · have e2 : i = l.length - 1 := by omega
      rw [List.getElem_append_left (by omega), List.getElem_append_right (by omega)]
      subst e2
      simpa using hg
end Go.Proofs.Ythkhafgcpmoalaa
