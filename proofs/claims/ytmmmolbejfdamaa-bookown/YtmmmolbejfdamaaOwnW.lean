/- Rows of entries that a caller may write into up to their capacity; Set, Drop, Apply and Make return such rows, whatever they are given. They write nothing that was there. -/
import Derived.Test.YtmmmolbejfdamaaChangeApply
import Derived.Test.YtmmmolbejfdamaaTreeDrop
import Derived.Test.YtmmmolbejfdamaaProofMake
namespace Go.Proofs.Ytmmmolbejfdamaa
set_option maxRecDepth 100000
open Go.RowKit

/-- A slice of entries whose array, if it has one, lies in a block from lo on and before hi, and holds strings that are not long. -/
def WR (w : World) (lo hi : Nat) (A : Option Addr) (n cap : Nat) : Prop :=
  n ≤ cap ∧ cap ≤ maxLen ∧ (cap = 0 ∨ ∃ (g : Nat) (ys : List Ent), A = some ⟨g, 0, none⟩ ∧ lo ≤ g ∧ g < hi ∧ ys.length = cap ∧ w.heap[g]? = some (.cells (encells ys).toArray 34 (0, 0)) ∧ ∀ x ∈ ys, x.2.length ≤ 1000)
theorem WR.nil (w : World) (lo hi : Nat) : WR w lo hi none 0 0 := ⟨Nat.le_refl _, Nat.zero_le _, .inl rfl⟩
theorem WR.of {w : World} {base : Nat} {A : Option Addr} {n cap : Nat} {l : List Ent} (h : ownsS w base (.slice A n cap) l) (hl : ∀ x ∈ l, x.2.length ≤ 1000) : WR w base w.heap.size A n cap := by
  rcases h with ⟨e, _⟩ | ⟨g, k, e, h1, h2, h3⟩
  · injection e with e1 e2 e3
    subst e1; subst e2; subst e3
    exact WR.nil _ _ _
  · injection e with e1 e2 e3
    subst e1; subst e2; subst e3
    refine ⟨Nat.le_add_right _ _, h2, .inr ⟨g, l ++ blanks k, rfl, h1, ?_, ?_, h3, fun x hx => ?_⟩⟩
    · obtain ⟨h, _⟩ := Array.getElem?_eq_some_iff.1 h3
      exact h
    · rw [List.length_append, blanks, List.length_replicate]
    · rcases List.mem_append.1 hx with h | h
      · exact hl x h
      · rw [(List.mem_replicate.1 h).2]; simp
theorem WR.below {w w' : World} {lo hi : Nat} {A : Option Addr} {n cap : Nat} (h : WR w lo hi A n cap) (hb : Below w.heap.size w w') : WR w' lo hi A n cap := by
  obtain ⟨h1, h2, h3⟩ := h
  refine ⟨h1, h2, h3.imp id ?_⟩
  rintro ⟨g, ys, e, hl, hh, hy, hc, hs⟩
  refine ⟨g, ys, e, hl, hh, hy, ?_, hs⟩
  obtain ⟨h, _⟩ := Array.getElem?_eq_some_iff.1 hc
  rw [hb.block g h]
  exact hc
theorem WR.far {w w' : World} {lo hi k : Nat} {A : Option Addr} {n cap : Nat} (h : WR w lo hi A n cap) (hg : w.grownBy w' (some k)) (hk : k < lo) : WR w' lo hi A n cap := by
  obtain ⟨h1, h2, h3⟩ := h
  refine ⟨h1, h2, h3.imp id ?_⟩
  rintro ⟨g, ys, e, hl, hh, hy, hc, hs⟩
  refine ⟨g, ys, e, hl, hh, hy, ?_, hs⟩
  obtain ⟨h, _⟩ := Array.getElem?_eq_some_iff.1 hc
  rw [hg.block g h (fun e => by injection e with e; omega)]
  exact hc
theorem good_short {es : List Ent} (h : Good es) : ∀ x ∈ es, x.2.length ≤ 1000 := fun x hx => by have := h.value x hx; omega

/-- What is known of what Set, Drop and Apply leave. -/
def WGives (w : World) (e : Ending) (w' : World) : Prop := ∃ A n cap r, e = .returned (.tuple #[.slice A n cap, .int .i64 r]) ∧ WR w' w.heap.size w'.heap.size A n cap ∧ Below w.heap.size w w'
theorem setW (A : Option Addr) (c : Nat) (es : List Ent) (n v : Bytes) (w : World) (hm : es.length ≤ maxLen) (hes : ∀ x ∈ es, x.1.length ≤ maxLen ∧ x.2.length ≤ maxLen) (hc : es.length ≤ c) (hn : n.length ≤ maxLen) (hv : v.length ≤ maxLen) (hA : Row w A (encells es)) :
    Calls Try.prog 29 #[.slice A es.length c, .string (S n), .string (S v)] w (WGives w) := by
  by_cases h : setErr es n v = 0
  · refine (treeSet_yesS A c es n v w hc hA h).mono ?_
    rintro e w' ⟨D, d, rfl, h1, h2⟩
    exact ⟨D, _, d, 0, rfl, WR.of h1 (good_short (setT_good h)), h2⟩
  · refine (treeSet_no A c es n v w hm hes hn hv hA _ rfl h).mono ?_
    rintro e w' ⟨rfl, h2⟩
    exact ⟨none, 0, 0, _, rfl, WR.nil _ _ _, h2⟩
theorem dropW (A : Option Addr) (c : Nat) (es : List Ent) (n : Bytes) (w : World) (hm : es.length ≤ maxLen) (hes : ∀ x ∈ es, x.1.length ≤ maxLen ∧ x.2.length ≤ maxLen) (hc : es.length ≤ c) (hn : n.length ≤ maxLen) (hA : Row w A (encells es)) :
    Calls Try.prog 30 #[.slice A es.length c, .string (S n)] w (WGives w) := by
  by_cases h : dropErr es n = 0
  · refine (treeDrop_yesS A c es n w hc hA h).mono ?_
    rintro e w' ⟨D, d, rfl, h1, h2⟩
    exact ⟨D, _, d, 0, rfl, WR.of h1 (good_short (without_good n ((dropErr_ok es n).1 h).1)), h2⟩
  · refine (treeDrop_no A c es n w hm hes hn hA _ rfl h).mono ?_
    rintro e w' ⟨rfl, h2⟩
    exact ⟨none, 0, 0, _, rfl, WR.nil _ _ _, h2⟩
theorem applyW (A C : Option Addr) (ca cc : Nat) (a c : List Ent) (w : World) (hma : a.length ≤ maxLen) (hea : ∀ x ∈ a, x.1.length ≤ maxLen ∧ x.2.length ≤ maxLen) (hmc : c.length ≤ maxLen) (hec : ∀ x ∈ c, x.1.length ≤ maxLen ∧ x.2.length ≤ maxLen) (hA : Row w A (encells a)) (hC : Row w C (encells c)) :
    Calls Try.prog 10 #[.slice A a.length ca, .slice C c.length cc] w (WGives w) := by
  refine (changeApply A C ca cc a c w hma hea hmc hec hA hC (applyRes a c).1 (applyRes a c).2 rfl).mono ?_
  rintro e w' ⟨D, d, rfl, h1, h2⟩
  refine ⟨D, _, d, _, rfl, WR.of h1 ?_, h2⟩
  by_cases h : (applyRes a c).2 = 0
  · exact good_short (applyRes_good a c h).2
  · rw [applyRes_bad a c h]
    intro x hx
    simp at hx
theorem makeW (A : Option Addr) (c : Nat) (es : List Ent) (n : Bytes) (w : World) (hm : es.length ≤ maxLen) (hes : ∀ x ∈ es, x.1.length ≤ maxLen ∧ x.2.length ≤ maxLen) (hn : n.length ≤ maxLen) (hA : Row w A (encells es)) :
    Calls Try.prog 24 #[.slice A es.length c, .string (S n)] w fun e w' => ∃ s D m d E k f r, e = .returned (.tuple #[.agg #[.string s, .slice D m d, .slice E k f], .int .i64 r]) ∧ WR w' w.heap.size w'.heap.size D m d ∧ Below w.heap.size w w' := by
  by_cases h : askErr es n = 0
  · obtain ⟨hg, hnm⟩ := (askErr_ok es n).1 h
    refine (proofMake_yesS A c es n w hg hnm hA).mono ?_
    rintro e w' ⟨D, d, E, f, rfl, h1, _, h2⟩
    exact ⟨_, D, _, d, E, _, f, 0, rfl, WR.of h1 (good_short (proofOf_good hg hnm).book), h2⟩
  · refine (proofMake_no A c es n w hm hes hn hA _ rfl h).mono ?_
    rintro e w' ⟨rfl, h2⟩
    exact ⟨_, none, 0, 0, none, 0, 0, _, rfl, WR.nil _ _ _, h2⟩

theorem encells_put (ys : List Ent) (m : Nat) (h : m < ys.length) (v : Bytes) : (encells ys).toArray.setIfInBounds (m * 2 + 1) (.string (S v)) = (encells (ys.set m (ys[m].1, v))).toArray := by
  rw [List.setIfInBounds_toArray]
  congr 1
  induction ys generalizing m with
  | nil => simp at h
  | cons x ys ih =>
    cases m with
    | zero => rfl
    | succ m =>
      have := ih m (by simpa using h)
      simp only [encells] at this ⊢
      rw [List.set_cons_succ, List.flatMap_cons, List.flatMap_cons, show (m + 1) * 2 + 1 = m * 2 + 1 + 1 + 1 by omega]
      simp only [List.cons_append, List.nil_append, List.set_cons_succ, List.getElem_cons_succ]
      rw [this]
end Go.Proofs.Ytmmmolbejfdamaa
